/-
  The walk of the document's answer for layer 4: Add.
-/
import Derived.Test.YtonapgbokbeopaaSpanRef0
import Derived.Test.YtonapgbokbeopaaStepRefC
import Derived.Test.YtonapgbokbeopaaStepRef0
import Derived.Test.YtonapgbokbeopaaStepRefT
namespace Go.Proofs.Ytonapgbokbeopaa.StepRef
open Go.RowKit Go.Proofs.Ytonapgbokbeopaa.SpanPlain Go.Proofs.Ytonapgbokbeopaa.StepPlain Go.Proofs.Ytonapgbokbeopaa.Mem Go.Proofs.Ytonapgbokbeopaa.SpanMem Go.Proofs.Ytonapgbokbeopaa.StepMem Go.Proofs.Ytonapgbokbeopaa.SpanRef
/-- What Add answers. -/
def AddTells (s : List Sp) (x : Sp) (n : Int) (w : World) (e : Ending) (w' : World) : Prop :=
  ∃ v r b, e = .returned (.tuple #[v, .bool b]) ∧ SpansIs r w' v ∧ r.length ≤ 700 ∧ ((b = true ∧ Rep r (head s) (addF s x n)) ∨ (b = false ∧ r = [] ∧ addOut s x n)) ∧ Below w.heap.size w w'
/-- The same, and that it lies in new memory. -/
def AddTellsN (s : List Sp) (x : Sp) (n : Int) (w : World) (e : Ending) (w' : World) : Prop :=
  ∃ v r b, e = .returned (.tuple #[v, .bool b]) ∧ SpansIs r w' v ∧ r.length ≤ 700 ∧ ((b = true ∧ Rep r (head s) (addF s x n)) ∨ (b = false ∧ r = [] ∧ addOut s x n)) ∧ Below w.heap.size w w' ∧ ∀ a m c, v = .slice (some a) m c → w.heap.size ≤ a.block
theorem own_new {e : TypeId} {k base n B : Nat} {w : World} {v : Value} {xs : List Value} (h : OwnN e k base w v n xs) (hb : B ≤ base) : ∀ a m c, v = .slice (some a) m c → B ≤ a.block := fun a m c e => by
  rcases h.form with ⟨h1, _⟩ | ⟨g, c2, hv, hg, _⟩
  · rw [h1] at e; cases e
  · rw [hv] at e
    injection e with e
    injection e with e
    subst e
    exact Nat.le_trans hb hg
def AddA (s : List Sp) (x : Sp) (B : Nat) (w wr : World) (v : Value) (k : Nat) : Prop := OwnN 40 2 B wr v (addSpans (s.take k) x).length (svals (addSpans (s.take k) x)) ∧ Below B w wr
theorem own_one_at {w : World} {n : Nat} (h : w.heap.size = n) (e : TypeId) (a b : Int) : OwnN e 2 n (w.alloc (.cells #[.int .i64 a, .int .i64 b] e)) (.slice (some ⟨n, 0, none⟩) 1 1) 1 [.int .i64 a, .int .i64 b] := by
  subst h; exact own_one w e a b
def AddB (s : List Sp) (x : Sp) (n : Int) (el : List Int) (w wr : World) (v : Value) (k : Nat) : Prop :=
  OwnN 42 2 w.heap.size wr v (buildL (addF s x n) ((el.take k).filter (keepB s x))).length (svals (buildL (addF s x n) ((el.take k).filter (keepB s x)))) ∧ (∀ e ∈ (el.take k).filter (keepB s x), 0 ≤ addF s x n e ∧ addF s x n e ≤ 256) ∧ Below w.heap.size w wr
theorem spans_take {s : List Sp} {x : Sp} {k : Nat} (hk : k < s.length) : addSpans (s.take (k + 1)) x = addSpans (s.take k) x ++ [((s.getD k (0, 0)).1, 4503599627370496)] := by
  unfold addSpans
  rw [List.take_succ_eq_append_getElem hk, List.map_append, getSp hk]
  rfl
theorem spans_len (s : List Sp) (x : Sp) (k : Nat) : (addSpans (s.take k) x).length ≤ k + 1 := by
  unfold addSpans
  rw [List.length_cons, List.length_map, List.length_take]
  omega
theorem keep_take {s : List Sp} {x : Sp} {el : List Int} {k : Nat} (hk : k < el.length) : (el.take (k + 1)).filter (keepB s x) = (el.take k).filter (keepB s x) ++ if keepB s x (el.getD k 0) then [el.getD k 0] else [] := by
  rw [List.take_succ_eq_append_getElem hk, List.filter_append, getD_el hk, List.filter_cons, List.filter_nil]
theorem keep_ways (s : List Sp) (x : Sp) (e : Int) : (decide (val s e < 0) = true ∧ Hid (keepB s x e = false)) ∨ (decide (val s e < 0) = false ∧ (e == 4503599627370496) = false ∧ Hid (keepB s x e = true)) ∨
    (decide (val s e < 0) = false ∧ (e == 4503599627370496) = true ∧ (e != x.2) = false ∧ Hid (keepB s x e = true)) ∨ (decide (val s e < 0) = false ∧ (e == 4503599627370496) = true ∧ (e != x.2) = true ∧ (lastAt s != 4503599627370496) = true ∧ Hid (keepB s x e = false)) ∨
    (decide (val s e < 0) = false ∧ (e == 4503599627370496) = true ∧ (e != x.2) = true ∧ (lastAt s != 4503599627370496) = false ∧ Hid (keepB s x e = true)) := by
  unfold keepB
  cases decide (val s e < 0) with
  | true => exact .inl ⟨rfl, rfl⟩
  | false =>
    cases (e == 4503599627370496) with
    | false => exact .inr (.inl ⟨rfl, rfl, rfl⟩)
    | true =>
      cases (e != x.2) with
      | false => exact .inr (.inr (.inl ⟨rfl, rfl, rfl, rfl⟩))
      | true =>
        cases (lastAt s != 4503599627370496) with
        | true => exact .inr (.inr (.inr (.inl ⟨rfl, rfl, rfl, rfl, rfl⟩)))
        | false => exact .inr (.inr (.inr (.inr ⟨rfl, rfl, rfl, rfl, rfl⟩)))
theorem sp_one {w : World} {n : Nat} (e : w.heap.size = n) (s : Sp) (T : TypeId) : SpansIs [s] (w.alloc (.cells #[.int .i64 s.1, .int .i64 s.2] T)) (.slice (some ⟨n, 0, none⟩) 1 1) := by
  subst e; exact .inr ⟨_, _, rfl, Raw.alloc w #[.int .i64 s.1, .int .i64 s.2] T, Nat.le_refl _⟩
theorem last_pair {w : World} {A : Option Addr} {s : List Sp} (h : Pairs w A s.length (spCell s)) (hn : 0 < s.length) : ∃ ad, A = some ad ∧ ad.block < w.heap.size ∧ w.cell? (ad.add ((s.length - 1) * 2)) = some (.int .i64 (lastAt s)) := by
  obtain ⟨ad, rfl, had, c1, _⟩ := h (s.length - 1) (by omega)
  exact ⟨ad, rfl, had, c1⟩
theorem addF_at (s : List Sp) (x : Sp) (n e : Int) : addF s x n e = if hasB x e then val s e + n else val s e := rfl
theorem has_one (x : Sp) (t : Int) (v : Value) (w : World) (h : SpansIs [x] w v) : Calls Try.prog 30 #[v, .int .i64 t] w (BoolIs (hasB x t) w) := by
  have h1 := has_is [x] v t w h (by simp)
  rwa [any_cons, any_nil, Bool.or_false] at h1
theorem val_range {s : List Sp} (h : Chk s) (t : Int) : -1 ≤ val s t ∧ val s t ≤ 256 := by
  by_cases ht : head s ≤ t
  · have := h.val_free ht; omega
  · rw [h.val_early (by omega)]; omega
set_option maxRecDepth 100000 in
set_option maxHeartbeats 6400000 in
theorem add4n (s : List Sp) (x : Sp) (n : Int) (v : Value) (w : World) (hv : SpansIs s w v) (hl : s.length ≤ 200) (hc : Chk s) (hx : May x) (hn1 : -256 ≤ n) (hn2 : n ≤ 256) :
    Calls Try.prog 16 #[v, spV x, .int .i64 n] w (AddTellsN s x n w) := by
  obtain ⟨A, c, rfl, hA⟩ := hv.open_
  have HC := Lib.hid hc
  have HX := Lib.hid hx
  have HV := Lib.hid (hv.below (below_alloc w (.cells #[.int .i64 x.1, .int .i64 x.2] 40)))
  have HBX := Lib.hid (Box2.new w (.int .i64 x.1) (.int .i64 x.2) 40)
  have HA := Lib.hid (hA.below (below_alloc w (.cells #[.int .i64 x.1, .int .i64 x.2] 40)))
  have HL0 := Lib.hid (below_alloc w (.cells #[.int .i64 x.1, .int .i64 x.2] 40))
  have hpos := hc.pos
  clear hA hv hc hx
  unfold spV
  go_enter Try.func16, Try.ntmps16
  go_upto_region 2 with fail
  have hsz : (w.alloc (.cells #[.int .i64 x.1, .int .i64 x.2] 40)).heap.size = w.heap.size + 1 := by simp
  have HSZ := Lib.hid hsz
  clear hsz
  generalize w.alloc (.cells #[.int .i64 x.1, .int .i64 x.2] 40) = W at *
  have HO := Lib.hid (own_one_at HSZ.out 40 x.1 x.2)
  go_wp2_with fail
  go_loopw [8, 9] (fun o i wr => ∃ (k : Nat) (v : Value), v = o ∧ i = .int .i64 k ∧ k ≤ s.length ∧ Hid (AddA s x (w.heap.size + 1) W wr v k)) (fun _ i _ => s.length - (intOf i).toNat)
  case atStart => exact ⟨0, _, rfl, rfl, Nat.zero_le _, HO.out, (Below.refl _ _).alloc (by rw [HSZ.out]; exact Nat.le_refl _) _⟩
  case round =>
    obtain ⟨k, o, hov, rfl, hk, HL⟩ := hrel
    subst hov
    by_cases hlt : k < s.length
    · obtain ⟨hown, hbl⟩ := HL.out
      obtain ⟨ad, rfl, had, c1, c2⟩ := (HA.out.below (by rw [HSZ.out]; exact hbl)) k hlt
      have HS := Lib.hid (spans_take (x := x) hlt)
      have hsl := spans_len s x k
      have hsize := hbl.size
      rw [HSZ.out] at hsize
      have HOW := Lib.hid hown
      have HBL := Lib.hid hbl
      unfold spCell at c1 c2
      dsimp only at c1 c2
      clear hown hbl HL had
      unfold AddA
      generalize s.getD k (0, 0) = y at *
      generalize addSpans (s.take k) x = sp at *
      have HOA := Lib.hid (HOW.out.alloc (.cells #[.int .i64 y.1, .int .i64 4503599627370496] 40))
      go_wp2_with (at_builtin; refine push_own spans_t rfl (.tmp 22) (.tmp 29) rfl (w.heap.size + 1) _ _ _ rfl HOA.out _ 1 [.int .i64 y.1, .int .i64 4503599627370496] rfl rfl ?h1a two_cells ?h1b ?_)
      case h1a => exact raw_at rfl #[.int .i64 y.1, .int .i64 4503599627370496] _
      case h1b => omega
      intro v3 w3 ho3 hb3 hg3
      have HO3 := Lib.hid ho3
      have HB3 := Lib.hid ((HBL.out.alloc hsize _).trans hb3)
      clear ho3 hb3 hg3
      go_wp2_with fail
      exact ⟨⟨k + 1, _, rfl, by go_num, by omega, HO3.out.cast (by rw [HS.out]; simp) (by rw [HS.out]; exact (svals_snoc sp (y.1, 4503599627370496)).symm), HB3.out⟩, by simp [intOf] <;> omega⟩
    · obtain ⟨hown, hbl⟩ := HL.out
      rw [List.take_of_length_le (by omega)] at hown
      have hsp : SpansIs (addSpans s x) wr o := spans_of_own hown rfl
      have hal := add_len s x
      have HE := Lib.hid (ends_any (addSpans s x) o wr hsp (by omega))
      have hel : (endsL (addSpans s x)).length ≤ 402 := by have := (ends_spec (addSpans s x)).2.2; omega
      have HEL := Lib.hid (show addEnds s x = (endsL (addSpans s x)).filter (keepB s x) from rfl)
      have HB1 := Lib.hid (show Below W.heap.size W wr by rw [HSZ.out]; exact hbl)
      clear hown hbl HL hsp hal
      generalize endsL (addSpans s x) = es at *
      go_wp2_with fail
      refine HE.out.mono ?_
      rintro e w2 ⟨ve, rfl, hE, hb2⟩
      obtain ⟨ea, ec, rfl, hre, _, _⟩ := hE
      have HRE := Lib.hid hre
      have HB2 := Lib.hid (below_then HB1.out hb2)
      have HO2 := Lib.hid (OwnR.new w2 42 2).toN
      clear hre hb2 HE HO
      go_wp2_with fail
      go_loopw [11, 12] (fun o i wr => ∃ (k : Nat) (v : Value), v = o ∧ i = .int .i64 k ∧ k ≤ es.length ∧ Hid (AddB s x n es w2 wr v k)) (fun _ i _ => es.length - (intOf i).toNat)
      case atStart => exact ⟨0, _, rfl, rfl, Nat.zero_le _, HO2.out, fun e he => by simp at he, (Below.refl _ _).alloc (Nat.le_refl _) _⟩
      case round =>
        obtain ⟨k, o, hov, rfl, hk, HL⟩ := hrel
        subst hov
        by_cases hlt : k < es.length
        · obtain ⟨hown, hall, hbl⟩ := HL.out
          have c1 := (HRE.out.below hbl).int hlt
          have HAB := Lib.hid (fun (w' : World) (hb : Below w2.heap.size w2 w') => last_pair (HA.out.below (below_then HB2.out hb)) hpos)
          obtain ⟨ad, hAd, had, c2⟩ := HAB.out wr hbl
          subst hAd
          have hbx := (HBX.out.below HB2.out).under hbl (Nat.lt_of_lt_of_le (by rw [HSZ.out]; exact Nat.lt_succ_self _) HB2.out.size)
          obtain ⟨b0, b1, b2, _, _⟩ := hbx
          have HKT := Lib.hid (keep_take (s := s) (x := x) hlt)
          have hkw := keep_ways s x (es.getD k 0)
          have HF := Lib.hid (addF_at s x n (es.getD k 0))
          have HIN := Lib.hid (getD_mem hlt)
          have CW := Lib.hid (within4 s (.slice (some ad) s.length c) (es.getD k 0) wr (HV.out.below (below_then HB2.out hbl)) (by omega))
          have i0 : (0 : Int) ≤ (k : Int) := Int.natCast_nonneg _
          have i1 : (k : Int) < (es.length : Int) := by omega
          have j1 : IntKind.i64.wrap ((s.length : Int) - 1) = (s.length : Int) - 1 := by rw [IntKind.wrap_i64]; omega
          have j2 : (0 : Int) ≤ (s.length : Int) - 1 := by omega
          have j3 : (s.length : Int) - 1 < (s.length : Int) := by omega
          have j4 : ((s.length : Int) - 1).toNat = s.length - 1 := by omega
          have j5 : (1 : Int) ≤ (s.length : Int) := by omega
          have HOW := Lib.hid hown
          have HALL := Lib.hid hall
          have HBL := Lib.hid hbl
          have HKB := Lib.hid (show ∀ e, e ∈ es → keepB s x e = true → e ∈ addEnds s x from fun e h1 h2 => by rw [HEL.out]; exact List.mem_filter.2 ⟨h1, h2⟩)
          have HOUT := Lib.hid (show keepB s x (es.getD k 0) = true → ¬ (0 ≤ addF s x n (es.getD k 0) ∧ addF s x n (es.getD k 0) ≤ 256) → addOut s x n from fun h1 h2 => ⟨_, ((keep_iff HC.out).1 h1).1, h2⟩)
          have hvr := val_range HC.out (es.getD k 0)
          have HBT := Lib.hid (build_snoc (addF s x n) ((es.take k).filter (keepB s x)) (es.getD k 0))
          have HALN := Lib.hid (show (0 ≤ addF s x n (es.getD k 0) ∧ addF s x n (es.getD k 0) ≤ 256) → ∀ e ∈ (es.take k).filter (keepB s x) ++ [es.getD k 0], 0 ≤ addF s x n e ∧ addF s x n e ≤ 256 from fun h e he => by
            rcases List.mem_append.1 he with he | he
            · exact HALL.out e he
            · simp at he; subst he; exact h)
          have hbl3 : (buildL (addF s x n) ((es.take k).filter (keepB s x))).length ≤ k := by
            have h1 := build_len (addF s x n) ((es.take k).filter (keepB s x))
            have h2 := List.length_filter_le (keepB s x) (es.take k)
            rw [List.length_take] at h2
            omega
          have CH := Lib.hid (fun (W : World) v (h : SpansIs [x] W v) => has_one x (es.getD k 0) v W h)
          have HAS := Lib.hid (add_first (addF s x n) (es.getD k 0))
          have HAE : Hid (∀ d q, q.2 = addF s x n (es.getD k 0) → addStep (addF s x n) (d ++ [q]) (es.getD k 0) = d ++ [q]) := fun d q h => add_same h
          have HAN : Hid (∀ d q, q.2 ≠ addF s x n (es.getD k 0) → addStep (addF s x n) (d ++ [q]) (es.getD k 0) = d ++ [q] ++ [(es.getD k 0, addF s x n (es.getD k 0))]) := fun d q h => add_new h
          have hea := (HRE.out.below hbl).intlt hlt
          clear hown hall hbl HL had HAB
          unfold AddB
          generalize es.getD k 0 = t at *
          generalize lastAt s = la at *
          generalize val s t = f at *
          generalize hasB x t = h at *
          generalize addF s x n t = F at *
          generalize hK : keepB s x t = K at *
          clear hK
          go_wp2_with fail
          refine CW.out.mono ?_
          rintro e w3 ⟨rfl, rfl⟩
          go_upto_region 12 with fail
          go_cut [73] from 46 to 73 (fun c wc => c = .bool (!K) ∧ ∃ q, wc = wr.drewN q)
          case first =>
            clear CW HKT HF HIN HOW HALL HBL HKB HOUT HBT HALN CH HAS HAE HAN HO2 HEL HB1 HA HV
            rcases hkw with ⟨k1, HO⟩ | ⟨k1, k2, HO⟩ | ⟨k1, k2, k3, HO⟩ | ⟨k1, k2, k3, k4, HO⟩ | ⟨k1, k2, k3, k4, HO⟩
            all_goals
              obtain rfl := HO.out
              clear HO
              go_wp2_with fail
              go_quiet (fail)
              go_wp2_with fail
              go_meet
              exact ⟨rfl, _, rfl⟩
          case rest =>
            obtain ⟨rfl, q, rfl⟩ := hcut
            clear hkw CW
            cases K with
            | false =>
              go_wp2_with fail
              exact ⟨⟨k + 1, _, rfl, by go_num, by omega, by rw [HKT.out]; simpa using HOW.out.drewN q, by rw [HKT.out]; simpa using HALL.out, below_drewN HBL.out q⟩, by simp [intOf] <;> omega⟩
            | true =>
              have HKN : Hid ((es.take (k + 1)).filter (keepB s x) = (es.take k).filter (keepB s x) ++ [t]) := by rw [HKT.out]; rfl
              have e1 : (wr.drewN q).cell? (ea.add k) = some (.int .i64 t) := c1
              have e2 : (wr.drewN q).cell? ⟨w.heap.size, 0, none⟩ = some (.int .i64 x.1) := b1
              have e3 : (wr.drewN q).cell? ⟨w.heap.size, 1, none⟩ = some (.int .i64 x.2) := b2
              have HOW5 := Lib.hid (HOW.out.drewN q)
              have HBL5 := Lib.hid (below_drewN HBL.out q)
              have HE0 : Hid (ea.block < (wr.drewN q).heap.size) := hea
              have HE1 : Hid (w.heap.size < (wr.drewN q).heap.size) := b0
              clear c1 c2 b0 b1 b2 hea HOW HBL HKT HEL
              go_wp2_with fail
              generalize wr.drewN q = W5 at *
              go_region_held3 (fun w' => w'.cell? (ea.add k) = some (.int .i64 t) ∧ w'.cell? ⟨w.heap.size, 0, none⟩ = some (.int .i64 x.1) ∧ w'.cell? ⟨w.heap.size, 1, none⟩ = some (.int .i64 x.2))
                (first | go_keep | (go_split_ands; exact ⟨(hb5.cell (p := ea.add k) (by rw [add_block]; have := HE0.out; simp; omega)).trans (by assumption), (hb5.cell (p := ⟨w.heap.size, 0, none⟩) (by have := HE1.out; simp; omega)).trans (by assumption), (hb5.cell (p := ⟨w.heap.size, 1, none⟩) (by have := HE1.out; simp; omega)).trans (by assumption)⟩))
                (first | (go_at_call_of 30 (Value.slice (some ⟨W5.heap.size, 0, none⟩) 1 1); (refine (CH.out (W5.alloc (.cells #[.int .i64 x.1, .int .i64 x.2] 40)).drew _ (sp_one rfl x 40)).mono ?_; rintro e w5 ⟨rfl, hb6⟩; have hb5 := below_of_drew hb6; clear hb6)))
              have HO5 := Lib.hid ((HOW5.out.alloc (.cells #[.int .i64 x.1, .int .i64 x.2] 40)).below hb5)
              have HBL6 := Lib.hid ((HBL5.out.alloc HBL5.out.size _).trans (hb5.mono (by have := HBL5.out.size; simp; omega)))
              have d1 : w5.cell? (ea.add k) = some (.int .i64 t) := ((below_then (below_alloc W5 (.cells #[.int .i64 x.1, .int .i64 x.2] 40)) hb5).cell (p := ea.add k) (by rw [add_block]; exact HE0.out)).trans e1
              clear hb5 HOW5 HBL5 CH HE0 HE1
              go_upto_if 80 with fail
              go_cut [13] from 81 to 83 (fun c wc => c = .int .i64 F ∧ w5 = wc)
              case first =>
                cases h with
                | true =>
                  obtain rfl : F = f + n := HF.out
                  clear HF HALL HALN HKB HBT HAS HAE HAN HKN HOUT HBL6 HO5
                  obtain ⟨v1, v2⟩ := hvr
                  go_wp2_with fail
                  go_meet
                  exact ⟨rfl, rfl⟩
                | false =>
                  obtain rfl : F = f := HF.out
                  clear HF HALL HALN HKB HBT HAS HAE HAN HKN HOUT HBL6 HO5
                  go_wp2_with fail
                  go_meet
                  exact ⟨rfl, rfl⟩
              case rest =>
                obtain ⟨rfl, rfl⟩ := hcut
                clear HF hvr
                have hways : (decide (F < 0) = true ∧ Hid (addOut s x n)) ∨ (decide (F < 0) = false ∧ decide (256 < F) = true ∧ Hid (addOut s x n)) ∨ (decide (F < 0) = false ∧ decide (256 < F) = false ∧ Hid (0 ≤ F ∧ F ≤ 256)) := by
                  by_cases h1 : F < 0
                  · exact .inl ⟨decide_eq_true h1, HOUT.out (by trivial) (by omega)⟩
                  · by_cases h2 : 256 < F
                    · exact .inr (.inl ⟨decide_eq_false h1, decide_eq_true h2, HOUT.out (by trivial) (by omega)⟩)
                    · exact .inr (.inr ⟨decide_eq_false h1, decide_eq_false h2, ⟨by omega, by omega⟩⟩)
                clear HOUT
                rcases hways with ⟨h1, HO⟩ | ⟨h1, h2, HO⟩ | ⟨h1, h2, HR⟩
                · go_wp2_with fail
                  go_ret2
                  exact ⟨_, [], false, rfl, .inl ⟨rfl, rfl⟩, by simp, .inr ⟨rfl, rfl, HO.out⟩, below_then HL0.out (below_then HB2.out HBL6.out), fun _ _ _ h => by cases h⟩
                · go_wp2_with fail
                  go_ret2
                  exact ⟨_, [], false, rfl, .inl ⟨rfl, rfl⟩, by simp, .inr ⟨rfl, rfl, HO.out⟩, below_then HL0.out (below_then HB2.out HBL6.out), fun _ _ _ h => by cases h⟩
                · have HAL2 := Lib.hid (HALN.out HR.out)
                  clear HALN HALL HR
                  generalize buildL (addF s x n) ((es.take k).filter (keepB s x)) = out at *
                  have hsn := snoc_ways out
                  rcases hsn with rfl | ⟨d, q, rfl⟩
                  · have HE := Lib.hid (HBT.out.trans HAS.out)
                    have HOA := Lib.hid (HO5.out.alloc (.cells #[.int .i64 t, .int .i64 F] 42))
                    clear HBT HAS HAE HAN
                    obtain ⟨B, cb, rfl⟩ := HO5.out.shape
                    go_wp2_with (at_builtin; refine push_own steps_t rfl (.tmp 104) (.tmp 111) rfl w2.heap.size _ _ _ rfl HOA.out _ 1 [.int .i64 t, .int .i64 F] rfl rfl ?h3a two_cells ?h3b ?_)
                    case h3a => exact raw_at (by simp) #[.int .i64 t, .int .i64 F] _
                    case h3b => simp <;> omega
                    intro v6 w6 ho6 hb6 hg6
                    have HO6 := Lib.hid ho6
                    have HB6 := Lib.hid ((HBL6.out.alloc HBL6.out.size _).trans hb6)
                    clear ho6 hb6 hg6
                    go_wp2_with fail
                    exact ⟨⟨k + 1, _, rfl, by go_num, by omega, by rw [HKN.out, HE.out]; exact HO6.out, by rw [HKN.out]; exact HAL2.out, HB6.out⟩, by simp [intOf] <;> omega⟩
                  · have hdl : d.length + 1 ≤ k := by simpa using hbl3
                    have HOQ : Hid (OwnN 42 2 w2.heap.size w5 o (d.length + 1) (svals (d ++ [q]))) := by
                      have h := HO5.out
                      rw [List.length_append, List.length_singleton] at h
                      exact h
                    obtain ⟨g, cap, hv, hg1, hg2, hgc, _⟩ := HOQ.out.there
                    have ce := hgc _ _ (last_cell d q)
                    clear hgc
                    subst hv
                    have q0 : (0 : Int) ≤ (d.length : Int) := Int.natCast_nonneg _
                    have q1 : (d.length : Int) < (d.length : Int) + 1 := by omega
                    have q2 : IntKind.i64.wrap ((d.length : Int) + 1 - 1) = (d.length : Int) := by rw [IntKind.wrap_i64]; omega
                    by_cases hq : q.2 = F
                    · have hq2 : (q.2 != F) = false := by simp [hq]
                      have HE := Lib.hid (HBT.out.trans (HAE.out d q hq))
                      clear HBT HAS HAE HAN hq
                      go_wp2_with fail
                      exact ⟨⟨k + 1, _, rfl, by go_num, by omega, by rw [HKN.out, HE.out]; exact HOQ.out.cast (by simp) rfl, by rw [HKN.out]; exact HAL2.out, HBL6.out⟩, by simp [intOf] <;> omega⟩
                    · have hq2 : (q.2 != F) = true := by simpa using hq
                      have HE := Lib.hid (HBT.out.trans (HAN.out d q hq))
                      have HOA := Lib.hid (HOQ.out.alloc (.cells #[.int .i64 t, .int .i64 F] 42))
                      clear HBT HAS HAE HAN hq
                      go_wp2_with (at_builtin; refine push_own steps_t rfl (.tmp 104) (.tmp 111) rfl w2.heap.size _ _ _ rfl HOA.out _ 1 [.int .i64 t, .int .i64 F] rfl rfl ?h4a two_cells ?h4b ?_)
                      case h4a => exact raw_at (by simp) #[.int .i64 t, .int .i64 F] _
                      case h4b => simp <;> omega
                      intro v6 w6 ho6 hb6 hg6
                      have HO6 := Lib.hid ho6
                      have HB6 := Lib.hid ((HBL6.out.alloc HBL6.out.size _).trans hb6)
                      clear ho6 hb6 hg6
                      go_wp2_with fail
                      exact ⟨⟨k + 1, _, rfl, by go_num, by omega, by rw [HKN.out, HE.out]; exact HO6.out.cast (by simp) (svals_snoc (d ++ [q]) (t, F)).symm, by rw [HKN.out]; exact HAL2.out, HB6.out⟩, by simp [intOf] <;> omega⟩
        · obtain ⟨hown, hall, hbl⟩ := HL.out
          rw [List.take_of_length_le (by omega), ← HEL.out] at hown hall
          have HD := Lib.hid (add_rep HC.out HX.out hall)
          have hbl3 : (buildL (addF s x n) (addEnds s x)).length ≤ 700 := by
            have h1 := build_len (addF s x n) (addEnds s x)
            have h2 := List.length_filter_le (keepB s x) es
            rw [← HEL.out] at h2
            omega
          have HOW := Lib.hid hown
          have HBL2 := Lib.hid hbl
          clear hown hall hbl HL
          go_wp2_with fail
          go_ret2
          exact ⟨_, _, true, rfl, spans_of_own HOW.out rfl, hbl3, .inl ⟨rfl, HD.out⟩, below_then HL0.out (below_then HB2.out HBL2.out), own_new HOW.out (below_then HL0.out HB2.out).size⟩
theorem add4 (s : List Sp) (x : Sp) (n : Int) (v : Value) (w : World) (hv : SpansIs s w v) (hl : s.length ≤ 200) (hc : Chk s) (hx : May x) (hn1 : -256 ≤ n) (hn2 : n ≤ 256) :
    Calls Try.prog 16 #[v, spV x, .int .i64 n] w (AddTells s x n w) :=
  (add4n s x n v w hv hl hc hx hn1 hn2).mono fun e w' h => by
    obtain ⟨v, r, b, h1, h2, h3, h4, h5, _⟩ := h
    exact ⟨v, r, b, h1, h2, h3, h4, h5⟩
end Go.Proofs.Ytonapgbokbeopaa.StepRef
