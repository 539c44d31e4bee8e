/-
  The walks of the document's answers for layer 7: Turn, Ran.
-/
import Derived.Test.YtjegkddpaampmaaJobRefB
namespace Go.Proofs.Ytjegkddpaampmaa.JobRef
open Go.RowKit Go.Proofs.Ytjegkddpaampmaa.JobPlain Go.Proofs.Ytjegkddpaampmaa.Mem Go.Proofs.Ytjegkddpaampmaa.JobMem
def TurnIs (j : Jb) (ev t : Int) (w : World) (e : Ending) (w' : World) : Prop := e = .returned (.tuple #[jobV (turnL j ev t).1, .int .i64 (turnL j ev t).2]) ∧ Below w.heap.size w w'
theorem arg_ways (j : Jb) (ev t : Int) : (mayJ j = false ∧ turnL j ev t = (noJb, 1)) ∨ (mayJ j = true ∧ decide (ev < 1) = true ∧ turnL j ev t = (noJb, 1)) ∨ (mayJ j = true ∧ decide (ev < 1) = false ∧ decide (6 < ev) = true ∧ turnL j ev t = (noJb, 1)) ∨
    (mayJ j = true ∧ decide (ev < 1) = false ∧ decide (6 < ev) = false ∧ decide (t < j.sub) = true ∧ turnL j ev t = (noJb, 1)) ∨ (mayJ j = true ∧ decide (ev < 1) = false ∧ decide (6 < ev) = false ∧ decide (t < j.sub) = false ∧ decide (1125899906842624 < t) = true ∧ turnL j ev t = (noJb, 1)) ∨
    (mayJ j = true ∧ decide (ev < 1) = false ∧ decide (6 < ev) = false ∧ decide (t < j.sub) = false ∧ decide (1125899906842624 < t) = false ∧ turnL j ev t = if turnState j ev then (noJb, 5) else if mayJ (nextJ j ev t) then (nextJ j ev t, 0) else (noJb, 1)) := by
  unfold turnL turnArg
  cases mayJ j with
  | false => exact .inl ⟨rfl, by simp⟩
  | true =>
    cases decide (ev < 1) with
    | true => exact .inr (.inl ⟨rfl, rfl, by simp⟩)
    | false =>
      cases decide (6 < ev) with
      | true => exact .inr (.inr (.inl ⟨rfl, rfl, rfl, by simp⟩))
      | false =>
        cases decide (t < j.sub) with
        | true => exact .inr (.inr (.inr (.inl ⟨rfl, rfl, rfl, rfl, by simp⟩)))
        | false =>
          cases decide (1125899906842624 < t) with
          | true => exact .inr (.inr (.inr (.inr (.inl ⟨rfl, rfl, rfl, rfl, rfl, by simp⟩))))
          | false => exact .inr (.inr (.inr (.inr (.inr ⟨rfl, rfl, rfl, rfl, rfl, by simp⟩))))
/-- By what happens: who is turned by it, what it is then. -/
theorem ev_ways (j : Jb) (ev t : Int) (h1 : decide (ev < 1) = false) (h2 : decide (6 < ev) = false) : (∃ f s : Int, ∃ b : Bool, ((ev = 1 ∧ f = 1 ∧ s = 0 ∧ b = false) ∨ (ev = 2 ∧ f = 0 ∧ s = 1 ∧ b = false) ∨ (ev = 3 ∧ f = 1 ∧ s = 2 ∧ b = true) ∨ (ev = 4 ∧ f = 2 ∧ s = 3 ∧ b = false) ∨ (ev = 5 ∧ f = 2 ∧ s = 4 ∧ b = false)) ∧
      turnState j ev = (j.state != f) ∧ (j.state = f → nextJ j ev t = ⟨j.id, j.user, j.width, j.est, j.prio, j.sub, s, if b then t else j.start, if f = 2 then t else j.fin⟩)) ∨
    (ev = 6 ∧ turnState j ev = decide (2 < j.state) ∧ nextJ j ev t = ⟨j.id, j.user, j.width, j.est, j.prio, j.sub, 5, j.start, if j.state = 2 then t else j.fin⟩) := by
  have h3 : 1 ≤ ev ∧ ev ≤ 6 := by
    rw [decide_eq_false_iff_not] at h1 h2; omega
  have h4 : ev = 1 ∨ ev = 2 ∨ ev = 3 ∨ ev = 4 ∨ ev = 5 ∨ ev = 6 := by omega
  unfold turnState nextJ fromS toS
  rcases h4 with rfl | rfl | rfl | rfl | rfl | rfl
  · exact .inl ⟨1, 0, false, .inl ⟨rfl, rfl, rfl, rfl⟩, by simp, fun h => by simp [h]⟩
  · exact .inl ⟨0, 1, false, .inr (.inl ⟨rfl, rfl, rfl, rfl⟩), by simp, fun h => by simp [h]⟩
  · exact .inl ⟨1, 2, true, .inr (.inr (.inl ⟨rfl, rfl, rfl, rfl⟩)), by simp, fun h => by simp [h]⟩
  · exact .inl ⟨2, 3, false, .inr (.inr (.inr (.inl ⟨rfl, rfl, rfl, rfl⟩))), by simp, fun h => by simp [h]⟩
  · exact .inl ⟨2, 4, false, .inr (.inr (.inr (.inr ⟨rfl, rfl, rfl, rfl⟩))), by simp, fun h => by simp [h]⟩
  · exact .inr ⟨rfl, by simp, by simp⟩
theorem two_jobs (w : World) (j : Jb) (T : TypeId) : JobBox ((w.alloc (.cells #[.int .i64 j.id, .string j.user, .int .i64 j.width, .int .i64 j.est, .int .i64 j.prio, .int .i64 j.sub, .int .i64 j.state, .int .i64 j.start, .int .i64 j.fin] T)).alloc (.cells #[.int .i64 0, .string ⟨#[]⟩, .int .i64 0, .int .i64 0, .int .i64 0, .int .i64 0, .int .i64 0, .int .i64 0, .int .i64 0] T)) w.heap.size j ∧
    JobBox ((w.alloc (.cells #[.int .i64 j.id, .string j.user, .int .i64 j.width, .int .i64 j.est, .int .i64 j.prio, .int .i64 j.sub, .int .i64 j.state, .int .i64 j.start, .int .i64 j.fin] T)).alloc (.cells #[.int .i64 0, .string ⟨#[]⟩, .int .i64 0, .int .i64 0, .int .i64 0, .int .i64 0, .int .i64 0, .int .i64 0, .int .i64 0] T)) (w.heap.size + 1) noJb ∧
    Below w.heap.size w ((w.alloc (.cells #[.int .i64 j.id, .string j.user, .int .i64 j.width, .int .i64 j.est, .int .i64 j.prio, .int .i64 j.sub, .int .i64 j.state, .int .i64 j.start, .int .i64 j.fin] T)).alloc (.cells #[.int .i64 0, .string ⟨#[]⟩, .int .i64 0, .int .i64 0, .int .i64 0, .int .i64 0, .int .i64 0, .int .i64 0, .int .i64 0] T)) := by
  have h1 := JobBox.new w j T
  have h2 := JobBox.new (w.alloc (.cells #[.int .i64 j.id, .string j.user, .int .i64 j.width, .int .i64 j.est, .int .i64 j.prio, .int .i64 j.sub, .int .i64 j.state, .int .i64 j.start, .int .i64 j.fin] T)) noJb T
  have hs : (w.alloc (.cells #[.int .i64 j.id, .string j.user, .int .i64 j.width, .int .i64 j.est, .int .i64 j.prio, .int .i64 j.sub, .int .i64 j.state, .int .i64 j.start, .int .i64 j.fin] T)).heap.size = w.heap.size + 1 := by simp
  rw [hs] at h2
  exact ⟨h1.below ((Below.refl _ _).alloc (Nat.le_refl _) _), h2, ((Below.refl _ _).alloc (Nat.le_refl _) _).alloc (by simp) _⟩
set_option maxRecDepth 100000 in
set_option maxHeartbeats 1600000 in
theorem turn7 (j : Jb) (ev t : Int) (w : World) (hf : Fit j) (ht : -9223372036854775808 ≤ t ∧ t ≤ 9223372036854775807) : Calls Try.prog 28 #[jobV j, .int .i64 ev, .int .i64 t] w (TurnIs j ev t w) := by
  have HF := Lib.hid hf
  have CM := Lib.hid (fun W => may7 j W hf)
  have HH := Lib.hid (two_jobs w j 28)
  have haw := arg_ways j ev t
  unfold jobV jobA TurnIs at *
  rcases haw with ⟨a1, hb⟩ | ⟨a1, a2, hb⟩ | ⟨a1, a2, a3, hb⟩ | ⟨a1, a2, a3, a4, hb⟩ | ⟨a1, a2, a3, a4, a5, hb⟩ | ⟨a1, a2, a3, a4, a5, hb⟩
  all_goals
    have HBB := Lib.hid hb
    rw [a1] at CM
    clear hb a1
    go_enter Try.func28, Try.ntmps28
    go_upto_region 1 with fail
    generalize ((w.alloc (.cells #[.int .i64 j.id, .string j.user, .int .i64 j.width, .int .i64 j.est, .int .i64 j.prio, .int .i64 j.sub, .int .i64 j.state, .int .i64 j.start, .int .i64 j.fin] 28)).alloc (.cells #[.int .i64 0, .string ⟨#[]⟩, .int .i64 0, .int .i64 0, .int .i64 0, .int .i64 0, .int .i64 0, .int .i64 0, .int .i64 0] 28)) = W at *
    have HX := Lib.hid HH.out.1
    have HZ := Lib.hid HH.out.2.1
    have HB := Lib.hid HH.out.2.2
    obtain ⟨y, y0, y1, y2, y3, y4, y5, y6, y7, y8, _, _, _, _, _, _, _, _, _⟩ := HX.out
    clear HH
  iterate 5
    · go_wp2_with (go_at_call 20; refine (CM.out _).mono ?_; rintro e w1 ⟨rfl, hb1⟩; have HB1 := Lib.hid (HB.out.trans (hb1.mono HB.out.size)); obtain ⟨x, x0, x1, x2, x3, x4, x5, x6, x7, x8, x9, x10, x11, x12, x13, x14, x15, x16, x17⟩ := HX.out.below hb1; have HZS := Lib.hid (fun x => (HZ.out.below hb1).stored x); obtain ⟨z, z0, z1, z2, z3, z4, z5, z6, z7, z8, z9, z10, z11, z12, z13, z14, z15, z16, z17⟩ := HZ.out.below hb1; clear hb1 y y0 y1 y2 y3 y4 y5 y6 y7 y8)
      change bodyPost _ _ _ Exit.ret _ (storedJ w1 (w.heap.size + 1) noJb)
      have HS := Lib.hid (HZS.out noJb)
      have HBS := Lib.hid (below_stored HB1.out (show w.heap.size ≤ w.heap.size + 1 by omega) noJb)
      generalize storedJ w1 (w.heap.size + 1) noJb = w9 at *
      clear x x0 x1 x2 x3 x4 x5 x6 x7 x8 x9 x10 x11 x12 x13 x14 x15 x16 x17 z z0 z1 z2 z3 z4 z5 z6 z7 z8 z9 z10 z11 z12 z13 z14 z15 z16 z17
      obtain ⟨z, z0, z1, z2, z3, z4, z5, z6, z7, z8, z9, z10, z11, z12, z13, z14, z15, z16, z17⟩ := HS.out
      exact bodyPost_ret (v := .tuple #[jobV noJb, .int .i64 1]) (by simp [results, Try.results28, go_sem, z0, z1, z2, z3, z4, z5, z6, z7, z8, jobV, jobA]) rfl ⟨by rw [HBB.out], HBS.out⟩
  · have hev := ev_ways j ev t a2 a3
    go_upto_region 3 with (go_at_call 20; refine (CM.out _).mono ?_; rintro e w1 ⟨rfl, hb1⟩; have HB1 := Lib.hid (HB.out.trans (hb1.mono HB.out.size)); have HX1 := Lib.hid (HX.out.below hb1); have HZ1 := Lib.hid (HZ.out.below hb1); clear hb1 y y0 y1 y2 y3 y4 y5 y6 y7 y8; obtain ⟨x, x0, x1, x2, x3, x4, x5, x6, x7, x8, _, _, _, _, _, _, _, _, _⟩ := HX1.out)
    rcases hev with ⟨f, s, b, ⟨rfl, rfl, rfl, rfl⟩ | ⟨rfl, rfl, rfl, rfl⟩ | ⟨rfl, rfl, rfl, rfl⟩ | ⟨rfl, rfl, rfl, rfl⟩ | ⟨rfl, rfl, rfl, rfl⟩, hts, hnx⟩ | ⟨rfl, hts, hnx⟩
    · go_upto_region 5 with fail
      have HX5 : Hid (JobBox ((w1.alloc (.cells #[.int .i64 0, .int .i64 1, .int .i64 0, .int .i64 1, .int .i64 2, .int .i64 2, .int .i64 j.state] 3)).alloc (.cells #[.int .i64 0, .int .i64 0, .int .i64 1, .int .i64 2, .int .i64 3, .int .i64 4, .int .i64 5] 3)) w.heap.size j) := (HX1.out.alloc _).alloc _
      have HZ5 : Hid (JobBox ((w1.alloc (.cells #[.int .i64 0, .int .i64 1, .int .i64 0, .int .i64 1, .int .i64 2, .int .i64 2, .int .i64 j.state] 3)).alloc (.cells #[.int .i64 0, .int .i64 0, .int .i64 1, .int .i64 2, .int .i64 3, .int .i64 4, .int .i64 5] 3)) (w.heap.size + 1) noJb) := (HZ1.out.alloc _).alloc _
      have HB5 : Hid (Below w.heap.size w ((w1.alloc (.cells #[.int .i64 0, .int .i64 1, .int .i64 0, .int .i64 1, .int .i64 2, .int .i64 2, .int .i64 j.state] 3)).alloc (.cells #[.int .i64 0, .int .i64 0, .int .i64 1, .int .i64 2, .int .i64 3, .int .i64 4, .int .i64 5] 3))) := (HB1.out.alloc HB1.out.size _).alloc (Nat.le_trans HB1.out.size (by simp)) _
      generalize ((w1.alloc (.cells #[.int .i64 0, .int .i64 1, .int .i64 0, .int .i64 1, .int .i64 2, .int .i64 2, .int .i64 j.state] 3)).alloc (.cells #[.int .i64 0, .int .i64 0, .int .i64 1, .int .i64 2, .int .i64 3, .int .i64 4, .int .i64 5] 3)) = w5 at *
      clear x x0 x1 x2 x3 x4 x5 x6 x7 x8 HX1 HZ1 HB1
      obtain ⟨v, v0, v1, v2, v3, v4, v5, v6, v7, v8, v9, v10, v11, v12, v13, v14, v15, v16, v17⟩ := HX5.out
      obtain ⟨z, z0, z1, z2, z3, z4, z5, z6, z7, z8, z9, z10, z11, z12, z13, z14, z15, z16, z17⟩ := HZ5.out
      cases hd : (j.state != 1)
      · have hj : j.state = 1 := by simpa using hd
        have HTL : Hid (turnL j 1 t = if mayJ (⟨j.id, j.user, j.width, j.est, j.prio, j.sub, 0, j.start, j.fin⟩ : Jb) then ((⟨j.id, j.user, j.width, j.est, j.prio, j.sub, 0, j.start, j.fin⟩ : Jb), 0) else (noJb, 1)) := by have := HBB.out; rw [hts, hd, hnx hj] at this; exact this
        have hd2 : (j.state == 2) = false := by rw [hj]; rfl
        clear hj hts hnx HBB
        go_upto_region 12 with fail
        have HX7 : Hid (JobBox (w5.setCell ⟨w.heap.size, 6, none⟩ (.int .i64 0)) w.heap.size (⟨j.id, j.user, j.width, j.est, j.prio, j.sub, 0, j.start, j.fin⟩ : Jb)) := HX5.out.set6 0
        have HZ7 : Hid (JobBox (w5.setCell ⟨w.heap.size, 6, none⟩ (.int .i64 0)) (w.heap.size + 1) noJb) := HZ5.out.set_other (p := ⟨w.heap.size, 6, none⟩) (by simp) _
        have HB7 : Hid (Below w.heap.size w (w5.setCell ⟨w.heap.size, 6, none⟩ (.int .i64 0))) := HB5.out.setCell (p := ⟨w.heap.size, 6, none⟩) (Nat.le_refl _) _
        have CM2 := Lib.hid (fun W => may7 (⟨j.id, j.user, j.width, j.est, j.prio, j.sub, 0, j.start, j.fin⟩ : Jb) W ⟨HF.out.1, HF.out.2.1, HF.out.2.2⟩)
        unfold jobV jobA at CM2
        dsimp only at CM2
        generalize (w5.setCell ⟨w.heap.size, 6, none⟩ (.int .i64 0)) = w7 at *
        clear v v0 v1 v2 v3 v4 v5 v6 v7 v8 v9 v10 v11 v12 v13 v14 v15 v16 v17 HX5 HZ5 HB5 z z0 z1 z2 z3 z4 z5 z6 z7 z8 z9 z10 z11 z12 z13 z14 z15 z16 z17
        obtain ⟨v, v0, v1, v2, v3, v4, v5, v6, v7, v8, _, _, _, _, _, _, _, _, _⟩ := HX7.out
        dsimp only at v0 v1 v2 v3 v4 v5 v6 v7 v8
        have HX9 := Lib.hid (fun W (hb : Below w7.heap.size w7 W) => HX7.out.below hb)
        have HZ9 := Lib.hid (fun W (hb : Below w7.heap.size w7 W) => HZ7.out.below hb)
        have HB9 := Lib.hid (fun W (hb : Below w7.heap.size w7 W) => HB7.out.trans (hb.mono HB7.out.size))
        cases hm : mayJ (⟨j.id, j.user, j.width, j.est, j.prio, j.sub, 0, j.start, j.fin⟩ : Jb)
        · rw [hm] at CM2
          have HTM : Hid (turnL j 1 t = (noJb, 1)) := by have := HTL.out; rw [hm] at this; exact this
          clear hm HTL
          go_wp2_with (go_at_call 20; refine (CM2.out _).mono ?_; rintro e w8 ⟨rfl, hb8⟩; have HB8 := Lib.hid (HB9.out w8 hb8); have HZ8 := Lib.hid (HZ9.out w8 hb8); obtain ⟨z, z0, z1, z2, z3, z4, z5, z6, z7, z8, z9, z10, z11, z12, z13, z14, z15, z16, z17⟩ := HZ8.out; have hx8 := HX9.out w8 hb8; clear hb8 HX9 HZ9 HB9 v v0 v1 v2 v3 v4 v5 v6 v7 v8; obtain ⟨v, v0, v1, v2, v3, v4, v5, v6, v7, v8, _, _, _, _, _, _, _, _, _⟩ := hx8; dsimp only at v0 v1 v2 v3 v4 v5 v6 v7 v8)
          change bodyPost _ _ _ Exit.ret _ (storedJ w8 (w.heap.size + 1) noJb)
          have HS := Lib.hid (HZ8.out.stored noJb)
          have HBS := Lib.hid (below_stored HB8.out (show w.heap.size ≤ w.heap.size + 1 by omega) noJb)
          generalize storedJ w8 (w.heap.size + 1) noJb = w9 at *
          clear v v0 v1 v2 v3 v4 v5 v6 v7 v8 z z0 z1 z2 z3 z4 z5 z6 z7 z8 z9 z10 z11 z12 z13 z14 z15 z16 z17
          obtain ⟨z, z0, z1, z2, z3, z4, z5, z6, z7, z8, z9, z10, z11, z12, z13, z14, z15, z16, z17⟩ := HS.out
          skip
          exact bodyPost_ret (v := .tuple #[jobV noJb, .int .i64 1]) (by simp [results, Try.results28, go_sem, z0, z1, z2, z3, z4, z5, z6, z7, z8, jobV, jobA]) rfl ⟨by rw [HTM.out], HBS.out⟩
        · rw [hm] at CM2
          have HTM : Hid (turnL j 1 t = ((⟨j.id, j.user, j.width, j.est, j.prio, j.sub, 0, j.start, j.fin⟩ : Jb), 0)) := by have := HTL.out; rw [hm] at this; exact this
          clear hm HTL
          go_wp2_with (go_at_call 20; refine (CM2.out _).mono ?_; rintro e w8 ⟨rfl, hb8⟩; have HB8 := Lib.hid (HB9.out w8 hb8); have HZ8 := Lib.hid (HZ9.out w8 hb8); obtain ⟨z, z0, z1, z2, z3, z4, z5, z6, z7, z8, z9, z10, z11, z12, z13, z14, z15, z16, z17⟩ := HZ8.out; have hx8 := HX9.out w8 hb8; clear hb8 HX9 HZ9 HB9 v v0 v1 v2 v3 v4 v5 v6 v7 v8; obtain ⟨v, v0, v1, v2, v3, v4, v5, v6, v7, v8, _, _, _, _, _, _, _, _, _⟩ := hx8; dsimp only at v0 v1 v2 v3 v4 v5 v6 v7 v8)
          change bodyPost _ _ _ Exit.ret _ (storedJ w8 (w.heap.size + 1) (⟨j.id, j.user, j.width, j.est, j.prio, j.sub, 0, j.start, j.fin⟩ : Jb))
          have HS := Lib.hid (HZ8.out.stored (⟨j.id, j.user, j.width, j.est, j.prio, j.sub, 0, j.start, j.fin⟩ : Jb))
          have HBS := Lib.hid (below_stored HB8.out (show w.heap.size ≤ w.heap.size + 1 by omega) (⟨j.id, j.user, j.width, j.est, j.prio, j.sub, 0, j.start, j.fin⟩ : Jb))
          generalize storedJ w8 (w.heap.size + 1) (⟨j.id, j.user, j.width, j.est, j.prio, j.sub, 0, j.start, j.fin⟩ : Jb) = w9 at *
          clear v v0 v1 v2 v3 v4 v5 v6 v7 v8 z z0 z1 z2 z3 z4 z5 z6 z7 z8 z9 z10 z11 z12 z13 z14 z15 z16 z17
          obtain ⟨z, z0, z1, z2, z3, z4, z5, z6, z7, z8, z9, z10, z11, z12, z13, z14, z15, z16, z17⟩ := HS.out
          dsimp only at z0 z1 z2 z3 z4 z5 z6 z7 z8
          exact bodyPost_ret (v := .tuple #[jobV (⟨j.id, j.user, j.width, j.est, j.prio, j.sub, 0, j.start, j.fin⟩ : Jb), .int .i64 0]) (by simp [results, Try.results28, go_sem, z0, z1, z2, z3, z4, z5, z6, z7, z8, jobV, jobA]) rfl ⟨by rw [HTM.out], HBS.out⟩
      · have HTL : Hid (turnL j 1 t = (noJb, 5)) := by have := HBB.out; rw [hts, hd] at this; exact this
        clear hts hnx HBB
        go_wp2_with fail
        change bodyPost _ _ _ Exit.ret _ (storedJ w5 (w.heap.size + 1) noJb)
        have HS := Lib.hid (HZ5.out.stored noJb)
        have HBS := Lib.hid (below_stored HB5.out (show w.heap.size ≤ w.heap.size + 1 by omega) noJb)
        generalize storedJ w5 (w.heap.size + 1) noJb = w9 at *
        clear v v0 v1 v2 v3 v4 v5 v6 v7 v8 v9 v10 v11 v12 v13 v14 v15 v16 v17 z z0 z1 z2 z3 z4 z5 z6 z7 z8 z9 z10 z11 z12 z13 z14 z15 z16 z17
        obtain ⟨z, z0, z1, z2, z3, z4, z5, z6, z7, z8, z9, z10, z11, z12, z13, z14, z15, z16, z17⟩ := HS.out
        skip
        exact bodyPost_ret (v := .tuple #[jobV noJb, .int .i64 5]) (by simp [results, Try.results28, go_sem, z0, z1, z2, z3, z4, z5, z6, z7, z8, jobV, jobA]) rfl ⟨by rw [HTL.out], HBS.out⟩
    · go_upto_region 5 with fail
      have HX5 : Hid (JobBox ((w1.alloc (.cells #[.int .i64 0, .int .i64 1, .int .i64 0, .int .i64 1, .int .i64 2, .int .i64 2, .int .i64 j.state] 3)).alloc (.cells #[.int .i64 0, .int .i64 0, .int .i64 1, .int .i64 2, .int .i64 3, .int .i64 4, .int .i64 5] 3)) w.heap.size j) := (HX1.out.alloc _).alloc _
      have HZ5 : Hid (JobBox ((w1.alloc (.cells #[.int .i64 0, .int .i64 1, .int .i64 0, .int .i64 1, .int .i64 2, .int .i64 2, .int .i64 j.state] 3)).alloc (.cells #[.int .i64 0, .int .i64 0, .int .i64 1, .int .i64 2, .int .i64 3, .int .i64 4, .int .i64 5] 3)) (w.heap.size + 1) noJb) := (HZ1.out.alloc _).alloc _
      have HB5 : Hid (Below w.heap.size w ((w1.alloc (.cells #[.int .i64 0, .int .i64 1, .int .i64 0, .int .i64 1, .int .i64 2, .int .i64 2, .int .i64 j.state] 3)).alloc (.cells #[.int .i64 0, .int .i64 0, .int .i64 1, .int .i64 2, .int .i64 3, .int .i64 4, .int .i64 5] 3))) := (HB1.out.alloc HB1.out.size _).alloc (Nat.le_trans HB1.out.size (by simp)) _
      generalize ((w1.alloc (.cells #[.int .i64 0, .int .i64 1, .int .i64 0, .int .i64 1, .int .i64 2, .int .i64 2, .int .i64 j.state] 3)).alloc (.cells #[.int .i64 0, .int .i64 0, .int .i64 1, .int .i64 2, .int .i64 3, .int .i64 4, .int .i64 5] 3)) = w5 at *
      clear x x0 x1 x2 x3 x4 x5 x6 x7 x8 HX1 HZ1 HB1
      obtain ⟨v, v0, v1, v2, v3, v4, v5, v6, v7, v8, v9, v10, v11, v12, v13, v14, v15, v16, v17⟩ := HX5.out
      obtain ⟨z, z0, z1, z2, z3, z4, z5, z6, z7, z8, z9, z10, z11, z12, z13, z14, z15, z16, z17⟩ := HZ5.out
      cases hd : (j.state != 0)
      · have hj : j.state = 0 := by simpa using hd
        have HTL : Hid (turnL j 2 t = if mayJ (⟨j.id, j.user, j.width, j.est, j.prio, j.sub, 1, j.start, j.fin⟩ : Jb) then ((⟨j.id, j.user, j.width, j.est, j.prio, j.sub, 1, j.start, j.fin⟩ : Jb), 0) else (noJb, 1)) := by have := HBB.out; rw [hts, hd, hnx hj] at this; exact this
        have hd2 : (j.state == 2) = false := by rw [hj]; rfl
        clear hj hts hnx HBB
        go_upto_region 12 with fail
        have HX7 : Hid (JobBox (w5.setCell ⟨w.heap.size, 6, none⟩ (.int .i64 1)) w.heap.size (⟨j.id, j.user, j.width, j.est, j.prio, j.sub, 1, j.start, j.fin⟩ : Jb)) := HX5.out.set6 1
        have HZ7 : Hid (JobBox (w5.setCell ⟨w.heap.size, 6, none⟩ (.int .i64 1)) (w.heap.size + 1) noJb) := HZ5.out.set_other (p := ⟨w.heap.size, 6, none⟩) (by simp) _
        have HB7 : Hid (Below w.heap.size w (w5.setCell ⟨w.heap.size, 6, none⟩ (.int .i64 1))) := HB5.out.setCell (p := ⟨w.heap.size, 6, none⟩) (Nat.le_refl _) _
        have CM2 := Lib.hid (fun W => may7 (⟨j.id, j.user, j.width, j.est, j.prio, j.sub, 1, j.start, j.fin⟩ : Jb) W ⟨HF.out.1, HF.out.2.1, HF.out.2.2⟩)
        unfold jobV jobA at CM2
        dsimp only at CM2
        generalize (w5.setCell ⟨w.heap.size, 6, none⟩ (.int .i64 1)) = w7 at *
        clear v v0 v1 v2 v3 v4 v5 v6 v7 v8 v9 v10 v11 v12 v13 v14 v15 v16 v17 HX5 HZ5 HB5 z z0 z1 z2 z3 z4 z5 z6 z7 z8 z9 z10 z11 z12 z13 z14 z15 z16 z17
        obtain ⟨v, v0, v1, v2, v3, v4, v5, v6, v7, v8, _, _, _, _, _, _, _, _, _⟩ := HX7.out
        dsimp only at v0 v1 v2 v3 v4 v5 v6 v7 v8
        have HX9 := Lib.hid (fun W (hb : Below w7.heap.size w7 W) => HX7.out.below hb)
        have HZ9 := Lib.hid (fun W (hb : Below w7.heap.size w7 W) => HZ7.out.below hb)
        have HB9 := Lib.hid (fun W (hb : Below w7.heap.size w7 W) => HB7.out.trans (hb.mono HB7.out.size))
        cases hm : mayJ (⟨j.id, j.user, j.width, j.est, j.prio, j.sub, 1, j.start, j.fin⟩ : Jb)
        · rw [hm] at CM2
          have HTM : Hid (turnL j 2 t = (noJb, 1)) := by have := HTL.out; rw [hm] at this; exact this
          clear hm HTL
          go_wp2_with (go_at_call 20; refine (CM2.out _).mono ?_; rintro e w8 ⟨rfl, hb8⟩; have HB8 := Lib.hid (HB9.out w8 hb8); have HZ8 := Lib.hid (HZ9.out w8 hb8); obtain ⟨z, z0, z1, z2, z3, z4, z5, z6, z7, z8, z9, z10, z11, z12, z13, z14, z15, z16, z17⟩ := HZ8.out; have hx8 := HX9.out w8 hb8; clear hb8 HX9 HZ9 HB9 v v0 v1 v2 v3 v4 v5 v6 v7 v8; obtain ⟨v, v0, v1, v2, v3, v4, v5, v6, v7, v8, _, _, _, _, _, _, _, _, _⟩ := hx8; dsimp only at v0 v1 v2 v3 v4 v5 v6 v7 v8)
          change bodyPost _ _ _ Exit.ret _ (storedJ w8 (w.heap.size + 1) noJb)
          have HS := Lib.hid (HZ8.out.stored noJb)
          have HBS := Lib.hid (below_stored HB8.out (show w.heap.size ≤ w.heap.size + 1 by omega) noJb)
          generalize storedJ w8 (w.heap.size + 1) noJb = w9 at *
          clear v v0 v1 v2 v3 v4 v5 v6 v7 v8 z z0 z1 z2 z3 z4 z5 z6 z7 z8 z9 z10 z11 z12 z13 z14 z15 z16 z17
          obtain ⟨z, z0, z1, z2, z3, z4, z5, z6, z7, z8, z9, z10, z11, z12, z13, z14, z15, z16, z17⟩ := HS.out
          skip
          exact bodyPost_ret (v := .tuple #[jobV noJb, .int .i64 1]) (by simp [results, Try.results28, go_sem, z0, z1, z2, z3, z4, z5, z6, z7, z8, jobV, jobA]) rfl ⟨by rw [HTM.out], HBS.out⟩
        · rw [hm] at CM2
          have HTM : Hid (turnL j 2 t = ((⟨j.id, j.user, j.width, j.est, j.prio, j.sub, 1, j.start, j.fin⟩ : Jb), 0)) := by have := HTL.out; rw [hm] at this; exact this
          clear hm HTL
          go_wp2_with (go_at_call 20; refine (CM2.out _).mono ?_; rintro e w8 ⟨rfl, hb8⟩; have HB8 := Lib.hid (HB9.out w8 hb8); have HZ8 := Lib.hid (HZ9.out w8 hb8); obtain ⟨z, z0, z1, z2, z3, z4, z5, z6, z7, z8, z9, z10, z11, z12, z13, z14, z15, z16, z17⟩ := HZ8.out; have hx8 := HX9.out w8 hb8; clear hb8 HX9 HZ9 HB9 v v0 v1 v2 v3 v4 v5 v6 v7 v8; obtain ⟨v, v0, v1, v2, v3, v4, v5, v6, v7, v8, _, _, _, _, _, _, _, _, _⟩ := hx8; dsimp only at v0 v1 v2 v3 v4 v5 v6 v7 v8)
          change bodyPost _ _ _ Exit.ret _ (storedJ w8 (w.heap.size + 1) (⟨j.id, j.user, j.width, j.est, j.prio, j.sub, 1, j.start, j.fin⟩ : Jb))
          have HS := Lib.hid (HZ8.out.stored (⟨j.id, j.user, j.width, j.est, j.prio, j.sub, 1, j.start, j.fin⟩ : Jb))
          have HBS := Lib.hid (below_stored HB8.out (show w.heap.size ≤ w.heap.size + 1 by omega) (⟨j.id, j.user, j.width, j.est, j.prio, j.sub, 1, j.start, j.fin⟩ : Jb))
          generalize storedJ w8 (w.heap.size + 1) (⟨j.id, j.user, j.width, j.est, j.prio, j.sub, 1, j.start, j.fin⟩ : Jb) = w9 at *
          clear v v0 v1 v2 v3 v4 v5 v6 v7 v8 z z0 z1 z2 z3 z4 z5 z6 z7 z8 z9 z10 z11 z12 z13 z14 z15 z16 z17
          obtain ⟨z, z0, z1, z2, z3, z4, z5, z6, z7, z8, z9, z10, z11, z12, z13, z14, z15, z16, z17⟩ := HS.out
          dsimp only at z0 z1 z2 z3 z4 z5 z6 z7 z8
          exact bodyPost_ret (v := .tuple #[jobV (⟨j.id, j.user, j.width, j.est, j.prio, j.sub, 1, j.start, j.fin⟩ : Jb), .int .i64 0]) (by simp [results, Try.results28, go_sem, z0, z1, z2, z3, z4, z5, z6, z7, z8, jobV, jobA]) rfl ⟨by rw [HTM.out], HBS.out⟩
      · have HTL : Hid (turnL j 2 t = (noJb, 5)) := by have := HBB.out; rw [hts, hd] at this; exact this
        clear hts hnx HBB
        go_wp2_with fail
        change bodyPost _ _ _ Exit.ret _ (storedJ w5 (w.heap.size + 1) noJb)
        have HS := Lib.hid (HZ5.out.stored noJb)
        have HBS := Lib.hid (below_stored HB5.out (show w.heap.size ≤ w.heap.size + 1 by omega) noJb)
        generalize storedJ w5 (w.heap.size + 1) noJb = w9 at *
        clear v v0 v1 v2 v3 v4 v5 v6 v7 v8 v9 v10 v11 v12 v13 v14 v15 v16 v17 z z0 z1 z2 z3 z4 z5 z6 z7 z8 z9 z10 z11 z12 z13 z14 z15 z16 z17
        obtain ⟨z, z0, z1, z2, z3, z4, z5, z6, z7, z8, z9, z10, z11, z12, z13, z14, z15, z16, z17⟩ := HS.out
        skip
        exact bodyPost_ret (v := .tuple #[jobV noJb, .int .i64 5]) (by simp [results, Try.results28, go_sem, z0, z1, z2, z3, z4, z5, z6, z7, z8, jobV, jobA]) rfl ⟨by rw [HTL.out], HBS.out⟩
    · go_upto_region 5 with fail
      have HX5 : Hid (JobBox ((w1.alloc (.cells #[.int .i64 0, .int .i64 1, .int .i64 0, .int .i64 1, .int .i64 2, .int .i64 2, .int .i64 j.state] 3)).alloc (.cells #[.int .i64 0, .int .i64 0, .int .i64 1, .int .i64 2, .int .i64 3, .int .i64 4, .int .i64 5] 3)) w.heap.size j) := (HX1.out.alloc _).alloc _
      have HZ5 : Hid (JobBox ((w1.alloc (.cells #[.int .i64 0, .int .i64 1, .int .i64 0, .int .i64 1, .int .i64 2, .int .i64 2, .int .i64 j.state] 3)).alloc (.cells #[.int .i64 0, .int .i64 0, .int .i64 1, .int .i64 2, .int .i64 3, .int .i64 4, .int .i64 5] 3)) (w.heap.size + 1) noJb) := (HZ1.out.alloc _).alloc _
      have HB5 : Hid (Below w.heap.size w ((w1.alloc (.cells #[.int .i64 0, .int .i64 1, .int .i64 0, .int .i64 1, .int .i64 2, .int .i64 2, .int .i64 j.state] 3)).alloc (.cells #[.int .i64 0, .int .i64 0, .int .i64 1, .int .i64 2, .int .i64 3, .int .i64 4, .int .i64 5] 3))) := (HB1.out.alloc HB1.out.size _).alloc (Nat.le_trans HB1.out.size (by simp)) _
      generalize ((w1.alloc (.cells #[.int .i64 0, .int .i64 1, .int .i64 0, .int .i64 1, .int .i64 2, .int .i64 2, .int .i64 j.state] 3)).alloc (.cells #[.int .i64 0, .int .i64 0, .int .i64 1, .int .i64 2, .int .i64 3, .int .i64 4, .int .i64 5] 3)) = w5 at *
      clear x x0 x1 x2 x3 x4 x5 x6 x7 x8 HX1 HZ1 HB1
      obtain ⟨v, v0, v1, v2, v3, v4, v5, v6, v7, v8, v9, v10, v11, v12, v13, v14, v15, v16, v17⟩ := HX5.out
      obtain ⟨z, z0, z1, z2, z3, z4, z5, z6, z7, z8, z9, z10, z11, z12, z13, z14, z15, z16, z17⟩ := HZ5.out
      cases hd : (j.state != 1)
      · have hj : j.state = 1 := by simpa using hd
        have HTL : Hid (turnL j 3 t = if mayJ (⟨j.id, j.user, j.width, j.est, j.prio, j.sub, 2, t, j.fin⟩ : Jb) then ((⟨j.id, j.user, j.width, j.est, j.prio, j.sub, 2, t, j.fin⟩ : Jb), 0) else (noJb, 1)) := by have := HBB.out; rw [hts, hd, hnx hj] at this; exact this
        have hd2 : (j.state == 2) = false := by rw [hj]; rfl
        clear hj hts hnx HBB
        go_upto_region 12 with fail
        have HX7 : Hid (JobBox ((w5.setCell ⟨w.heap.size, 7, none⟩ (.int .i64 t)).setCell ⟨w.heap.size, 6, none⟩ (.int .i64 2)) w.heap.size (⟨j.id, j.user, j.width, j.est, j.prio, j.sub, 2, t, j.fin⟩ : Jb)) := (HX5.out.set7 t).set6 2
        have HZ7 : Hid (JobBox ((w5.setCell ⟨w.heap.size, 7, none⟩ (.int .i64 t)).setCell ⟨w.heap.size, 6, none⟩ (.int .i64 2)) (w.heap.size + 1) noJb) := (HZ5.out.set_other (p := ⟨w.heap.size, 7, none⟩) (by simp) (.int .i64 t)).set_other (p := ⟨w.heap.size, 6, none⟩) (by simp) _
        have HB7 : Hid (Below w.heap.size w ((w5.setCell ⟨w.heap.size, 7, none⟩ (.int .i64 t)).setCell ⟨w.heap.size, 6, none⟩ (.int .i64 2))) := (HB5.out.setCell (p := ⟨w.heap.size, 7, none⟩) (Nat.le_refl _) (.int .i64 t)).setCell (p := ⟨w.heap.size, 6, none⟩) (Nat.le_refl _) _
        have CM2 := Lib.hid (fun W => may7 (⟨j.id, j.user, j.width, j.est, j.prio, j.sub, 2, t, j.fin⟩ : Jb) W ⟨HF.out.1, HF.out.2.1, HF.out.2.2⟩)
        unfold jobV jobA at CM2
        dsimp only at CM2
        generalize ((w5.setCell ⟨w.heap.size, 7, none⟩ (.int .i64 t)).setCell ⟨w.heap.size, 6, none⟩ (.int .i64 2)) = w7 at *
        clear v v0 v1 v2 v3 v4 v5 v6 v7 v8 v9 v10 v11 v12 v13 v14 v15 v16 v17 HX5 HZ5 HB5 z z0 z1 z2 z3 z4 z5 z6 z7 z8 z9 z10 z11 z12 z13 z14 z15 z16 z17
        obtain ⟨v, v0, v1, v2, v3, v4, v5, v6, v7, v8, _, _, _, _, _, _, _, _, _⟩ := HX7.out
        dsimp only at v0 v1 v2 v3 v4 v5 v6 v7 v8
        have HX9 := Lib.hid (fun W (hb : Below w7.heap.size w7 W) => HX7.out.below hb)
        have HZ9 := Lib.hid (fun W (hb : Below w7.heap.size w7 W) => HZ7.out.below hb)
        have HB9 := Lib.hid (fun W (hb : Below w7.heap.size w7 W) => HB7.out.trans (hb.mono HB7.out.size))
        cases hm : mayJ (⟨j.id, j.user, j.width, j.est, j.prio, j.sub, 2, t, j.fin⟩ : Jb)
        · rw [hm] at CM2
          have HTM : Hid (turnL j 3 t = (noJb, 1)) := by have := HTL.out; rw [hm] at this; exact this
          clear hm HTL
          go_wp2_with (go_at_call 20; refine (CM2.out _).mono ?_; rintro e w8 ⟨rfl, hb8⟩; have HB8 := Lib.hid (HB9.out w8 hb8); have HZ8 := Lib.hid (HZ9.out w8 hb8); obtain ⟨z, z0, z1, z2, z3, z4, z5, z6, z7, z8, z9, z10, z11, z12, z13, z14, z15, z16, z17⟩ := HZ8.out; have hx8 := HX9.out w8 hb8; clear hb8 HX9 HZ9 HB9 v v0 v1 v2 v3 v4 v5 v6 v7 v8; obtain ⟨v, v0, v1, v2, v3, v4, v5, v6, v7, v8, _, _, _, _, _, _, _, _, _⟩ := hx8; dsimp only at v0 v1 v2 v3 v4 v5 v6 v7 v8)
          change bodyPost _ _ _ Exit.ret _ (storedJ w8 (w.heap.size + 1) noJb)
          have HS := Lib.hid (HZ8.out.stored noJb)
          have HBS := Lib.hid (below_stored HB8.out (show w.heap.size ≤ w.heap.size + 1 by omega) noJb)
          generalize storedJ w8 (w.heap.size + 1) noJb = w9 at *
          clear v v0 v1 v2 v3 v4 v5 v6 v7 v8 z z0 z1 z2 z3 z4 z5 z6 z7 z8 z9 z10 z11 z12 z13 z14 z15 z16 z17
          obtain ⟨z, z0, z1, z2, z3, z4, z5, z6, z7, z8, z9, z10, z11, z12, z13, z14, z15, z16, z17⟩ := HS.out
          skip
          exact bodyPost_ret (v := .tuple #[jobV noJb, .int .i64 1]) (by simp [results, Try.results28, go_sem, z0, z1, z2, z3, z4, z5, z6, z7, z8, jobV, jobA]) rfl ⟨by rw [HTM.out], HBS.out⟩
        · rw [hm] at CM2
          have HTM : Hid (turnL j 3 t = ((⟨j.id, j.user, j.width, j.est, j.prio, j.sub, 2, t, j.fin⟩ : Jb), 0)) := by have := HTL.out; rw [hm] at this; exact this
          clear hm HTL
          go_wp2_with (go_at_call 20; refine (CM2.out _).mono ?_; rintro e w8 ⟨rfl, hb8⟩; have HB8 := Lib.hid (HB9.out w8 hb8); have HZ8 := Lib.hid (HZ9.out w8 hb8); obtain ⟨z, z0, z1, z2, z3, z4, z5, z6, z7, z8, z9, z10, z11, z12, z13, z14, z15, z16, z17⟩ := HZ8.out; have hx8 := HX9.out w8 hb8; clear hb8 HX9 HZ9 HB9 v v0 v1 v2 v3 v4 v5 v6 v7 v8; obtain ⟨v, v0, v1, v2, v3, v4, v5, v6, v7, v8, _, _, _, _, _, _, _, _, _⟩ := hx8; dsimp only at v0 v1 v2 v3 v4 v5 v6 v7 v8)
          change bodyPost _ _ _ Exit.ret _ (storedJ w8 (w.heap.size + 1) (⟨j.id, j.user, j.width, j.est, j.prio, j.sub, 2, t, j.fin⟩ : Jb))
          have HS := Lib.hid (HZ8.out.stored (⟨j.id, j.user, j.width, j.est, j.prio, j.sub, 2, t, j.fin⟩ : Jb))
          have HBS := Lib.hid (below_stored HB8.out (show w.heap.size ≤ w.heap.size + 1 by omega) (⟨j.id, j.user, j.width, j.est, j.prio, j.sub, 2, t, j.fin⟩ : Jb))
          generalize storedJ w8 (w.heap.size + 1) (⟨j.id, j.user, j.width, j.est, j.prio, j.sub, 2, t, j.fin⟩ : Jb) = w9 at *
          clear v v0 v1 v2 v3 v4 v5 v6 v7 v8 z z0 z1 z2 z3 z4 z5 z6 z7 z8 z9 z10 z11 z12 z13 z14 z15 z16 z17
          obtain ⟨z, z0, z1, z2, z3, z4, z5, z6, z7, z8, z9, z10, z11, z12, z13, z14, z15, z16, z17⟩ := HS.out
          dsimp only at z0 z1 z2 z3 z4 z5 z6 z7 z8
          exact bodyPost_ret (v := .tuple #[jobV (⟨j.id, j.user, j.width, j.est, j.prio, j.sub, 2, t, j.fin⟩ : Jb), .int .i64 0]) (by simp [results, Try.results28, go_sem, z0, z1, z2, z3, z4, z5, z6, z7, z8, jobV, jobA]) rfl ⟨by rw [HTM.out], HBS.out⟩
      · have HTL : Hid (turnL j 3 t = (noJb, 5)) := by have := HBB.out; rw [hts, hd] at this; exact this
        clear hts hnx HBB
        go_wp2_with fail
        change bodyPost _ _ _ Exit.ret _ (storedJ w5 (w.heap.size + 1) noJb)
        have HS := Lib.hid (HZ5.out.stored noJb)
        have HBS := Lib.hid (below_stored HB5.out (show w.heap.size ≤ w.heap.size + 1 by omega) noJb)
        generalize storedJ w5 (w.heap.size + 1) noJb = w9 at *
        clear v v0 v1 v2 v3 v4 v5 v6 v7 v8 v9 v10 v11 v12 v13 v14 v15 v16 v17 z z0 z1 z2 z3 z4 z5 z6 z7 z8 z9 z10 z11 z12 z13 z14 z15 z16 z17
        obtain ⟨z, z0, z1, z2, z3, z4, z5, z6, z7, z8, z9, z10, z11, z12, z13, z14, z15, z16, z17⟩ := HS.out
        skip
        exact bodyPost_ret (v := .tuple #[jobV noJb, .int .i64 5]) (by simp [results, Try.results28, go_sem, z0, z1, z2, z3, z4, z5, z6, z7, z8, jobV, jobA]) rfl ⟨by rw [HTL.out], HBS.out⟩
    · go_upto_region 5 with fail
      have HX5 : Hid (JobBox ((w1.alloc (.cells #[.int .i64 0, .int .i64 1, .int .i64 0, .int .i64 1, .int .i64 2, .int .i64 2, .int .i64 j.state] 3)).alloc (.cells #[.int .i64 0, .int .i64 0, .int .i64 1, .int .i64 2, .int .i64 3, .int .i64 4, .int .i64 5] 3)) w.heap.size j) := (HX1.out.alloc _).alloc _
      have HZ5 : Hid (JobBox ((w1.alloc (.cells #[.int .i64 0, .int .i64 1, .int .i64 0, .int .i64 1, .int .i64 2, .int .i64 2, .int .i64 j.state] 3)).alloc (.cells #[.int .i64 0, .int .i64 0, .int .i64 1, .int .i64 2, .int .i64 3, .int .i64 4, .int .i64 5] 3)) (w.heap.size + 1) noJb) := (HZ1.out.alloc _).alloc _
      have HB5 : Hid (Below w.heap.size w ((w1.alloc (.cells #[.int .i64 0, .int .i64 1, .int .i64 0, .int .i64 1, .int .i64 2, .int .i64 2, .int .i64 j.state] 3)).alloc (.cells #[.int .i64 0, .int .i64 0, .int .i64 1, .int .i64 2, .int .i64 3, .int .i64 4, .int .i64 5] 3))) := (HB1.out.alloc HB1.out.size _).alloc (Nat.le_trans HB1.out.size (by simp)) _
      generalize ((w1.alloc (.cells #[.int .i64 0, .int .i64 1, .int .i64 0, .int .i64 1, .int .i64 2, .int .i64 2, .int .i64 j.state] 3)).alloc (.cells #[.int .i64 0, .int .i64 0, .int .i64 1, .int .i64 2, .int .i64 3, .int .i64 4, .int .i64 5] 3)) = w5 at *
      clear x x0 x1 x2 x3 x4 x5 x6 x7 x8 HX1 HZ1 HB1
      obtain ⟨v, v0, v1, v2, v3, v4, v5, v6, v7, v8, v9, v10, v11, v12, v13, v14, v15, v16, v17⟩ := HX5.out
      obtain ⟨z, z0, z1, z2, z3, z4, z5, z6, z7, z8, z9, z10, z11, z12, z13, z14, z15, z16, z17⟩ := HZ5.out
      cases hd : (j.state != 2)
      · have hj : j.state = 2 := by simpa using hd
        have HTL : Hid (turnL j 4 t = if mayJ (⟨j.id, j.user, j.width, j.est, j.prio, j.sub, 3, j.start, t⟩ : Jb) then ((⟨j.id, j.user, j.width, j.est, j.prio, j.sub, 3, j.start, t⟩ : Jb), 0) else (noJb, 1)) := by have := HBB.out; rw [hts, hd, hnx hj] at this; exact this
        have hd2 : (j.state == 2) = true := by rw [hj]; rfl
        clear hj hts hnx HBB
        go_upto_region 12 with fail
        have HX7 : Hid (JobBox ((w5.setCell ⟨w.heap.size, 8, none⟩ (.int .i64 t)).setCell ⟨w.heap.size, 6, none⟩ (.int .i64 3)) w.heap.size (⟨j.id, j.user, j.width, j.est, j.prio, j.sub, 3, j.start, t⟩ : Jb)) := (HX5.out.set8 t).set6 3
        have HZ7 : Hid (JobBox ((w5.setCell ⟨w.heap.size, 8, none⟩ (.int .i64 t)).setCell ⟨w.heap.size, 6, none⟩ (.int .i64 3)) (w.heap.size + 1) noJb) := (HZ5.out.set_other (p := ⟨w.heap.size, 8, none⟩) (by simp) (.int .i64 t)).set_other (p := ⟨w.heap.size, 6, none⟩) (by simp) _
        have HB7 : Hid (Below w.heap.size w ((w5.setCell ⟨w.heap.size, 8, none⟩ (.int .i64 t)).setCell ⟨w.heap.size, 6, none⟩ (.int .i64 3))) := (HB5.out.setCell (p := ⟨w.heap.size, 8, none⟩) (Nat.le_refl _) (.int .i64 t)).setCell (p := ⟨w.heap.size, 6, none⟩) (Nat.le_refl _) _
        have CM2 := Lib.hid (fun W => may7 (⟨j.id, j.user, j.width, j.est, j.prio, j.sub, 3, j.start, t⟩ : Jb) W ⟨by dsimp only; omega, by dsimp only; omega, HF.out.2.2⟩)
        unfold jobV jobA at CM2
        dsimp only at CM2
        generalize ((w5.setCell ⟨w.heap.size, 8, none⟩ (.int .i64 t)).setCell ⟨w.heap.size, 6, none⟩ (.int .i64 3)) = w7 at *
        clear v v0 v1 v2 v3 v4 v5 v6 v7 v8 v9 v10 v11 v12 v13 v14 v15 v16 v17 HX5 HZ5 HB5 z z0 z1 z2 z3 z4 z5 z6 z7 z8 z9 z10 z11 z12 z13 z14 z15 z16 z17
        obtain ⟨v, v0, v1, v2, v3, v4, v5, v6, v7, v8, _, _, _, _, _, _, _, _, _⟩ := HX7.out
        dsimp only at v0 v1 v2 v3 v4 v5 v6 v7 v8
        have HX9 := Lib.hid (fun W (hb : Below w7.heap.size w7 W) => HX7.out.below hb)
        have HZ9 := Lib.hid (fun W (hb : Below w7.heap.size w7 W) => HZ7.out.below hb)
        have HB9 := Lib.hid (fun W (hb : Below w7.heap.size w7 W) => HB7.out.trans (hb.mono HB7.out.size))
        cases hm : mayJ (⟨j.id, j.user, j.width, j.est, j.prio, j.sub, 3, j.start, t⟩ : Jb)
        · rw [hm] at CM2
          have HTM : Hid (turnL j 4 t = (noJb, 1)) := by have := HTL.out; rw [hm] at this; exact this
          clear hm HTL
          go_wp2_with (go_at_call 20; refine (CM2.out _).mono ?_; rintro e w8 ⟨rfl, hb8⟩; have HB8 := Lib.hid (HB9.out w8 hb8); have HZ8 := Lib.hid (HZ9.out w8 hb8); obtain ⟨z, z0, z1, z2, z3, z4, z5, z6, z7, z8, z9, z10, z11, z12, z13, z14, z15, z16, z17⟩ := HZ8.out; have hx8 := HX9.out w8 hb8; clear hb8 HX9 HZ9 HB9 v v0 v1 v2 v3 v4 v5 v6 v7 v8; obtain ⟨v, v0, v1, v2, v3, v4, v5, v6, v7, v8, _, _, _, _, _, _, _, _, _⟩ := hx8; dsimp only at v0 v1 v2 v3 v4 v5 v6 v7 v8)
          change bodyPost _ _ _ Exit.ret _ (storedJ w8 (w.heap.size + 1) noJb)
          have HS := Lib.hid (HZ8.out.stored noJb)
          have HBS := Lib.hid (below_stored HB8.out (show w.heap.size ≤ w.heap.size + 1 by omega) noJb)
          generalize storedJ w8 (w.heap.size + 1) noJb = w9 at *
          clear v v0 v1 v2 v3 v4 v5 v6 v7 v8 z z0 z1 z2 z3 z4 z5 z6 z7 z8 z9 z10 z11 z12 z13 z14 z15 z16 z17
          obtain ⟨z, z0, z1, z2, z3, z4, z5, z6, z7, z8, z9, z10, z11, z12, z13, z14, z15, z16, z17⟩ := HS.out
          skip
          exact bodyPost_ret (v := .tuple #[jobV noJb, .int .i64 1]) (by simp [results, Try.results28, go_sem, z0, z1, z2, z3, z4, z5, z6, z7, z8, jobV, jobA]) rfl ⟨by rw [HTM.out], HBS.out⟩
        · rw [hm] at CM2
          have HTM : Hid (turnL j 4 t = ((⟨j.id, j.user, j.width, j.est, j.prio, j.sub, 3, j.start, t⟩ : Jb), 0)) := by have := HTL.out; rw [hm] at this; exact this
          clear hm HTL
          go_wp2_with (go_at_call 20; refine (CM2.out _).mono ?_; rintro e w8 ⟨rfl, hb8⟩; have HB8 := Lib.hid (HB9.out w8 hb8); have HZ8 := Lib.hid (HZ9.out w8 hb8); obtain ⟨z, z0, z1, z2, z3, z4, z5, z6, z7, z8, z9, z10, z11, z12, z13, z14, z15, z16, z17⟩ := HZ8.out; have hx8 := HX9.out w8 hb8; clear hb8 HX9 HZ9 HB9 v v0 v1 v2 v3 v4 v5 v6 v7 v8; obtain ⟨v, v0, v1, v2, v3, v4, v5, v6, v7, v8, _, _, _, _, _, _, _, _, _⟩ := hx8; dsimp only at v0 v1 v2 v3 v4 v5 v6 v7 v8)
          change bodyPost _ _ _ Exit.ret _ (storedJ w8 (w.heap.size + 1) (⟨j.id, j.user, j.width, j.est, j.prio, j.sub, 3, j.start, t⟩ : Jb))
          have HS := Lib.hid (HZ8.out.stored (⟨j.id, j.user, j.width, j.est, j.prio, j.sub, 3, j.start, t⟩ : Jb))
          have HBS := Lib.hid (below_stored HB8.out (show w.heap.size ≤ w.heap.size + 1 by omega) (⟨j.id, j.user, j.width, j.est, j.prio, j.sub, 3, j.start, t⟩ : Jb))
          generalize storedJ w8 (w.heap.size + 1) (⟨j.id, j.user, j.width, j.est, j.prio, j.sub, 3, j.start, t⟩ : Jb) = w9 at *
          clear v v0 v1 v2 v3 v4 v5 v6 v7 v8 z z0 z1 z2 z3 z4 z5 z6 z7 z8 z9 z10 z11 z12 z13 z14 z15 z16 z17
          obtain ⟨z, z0, z1, z2, z3, z4, z5, z6, z7, z8, z9, z10, z11, z12, z13, z14, z15, z16, z17⟩ := HS.out
          dsimp only at z0 z1 z2 z3 z4 z5 z6 z7 z8
          exact bodyPost_ret (v := .tuple #[jobV (⟨j.id, j.user, j.width, j.est, j.prio, j.sub, 3, j.start, t⟩ : Jb), .int .i64 0]) (by simp [results, Try.results28, go_sem, z0, z1, z2, z3, z4, z5, z6, z7, z8, jobV, jobA]) rfl ⟨by rw [HTM.out], HBS.out⟩
      · have HTL : Hid (turnL j 4 t = (noJb, 5)) := by have := HBB.out; rw [hts, hd] at this; exact this
        clear hts hnx HBB
        go_wp2_with fail
        change bodyPost _ _ _ Exit.ret _ (storedJ w5 (w.heap.size + 1) noJb)
        have HS := Lib.hid (HZ5.out.stored noJb)
        have HBS := Lib.hid (below_stored HB5.out (show w.heap.size ≤ w.heap.size + 1 by omega) noJb)
        generalize storedJ w5 (w.heap.size + 1) noJb = w9 at *
        clear v v0 v1 v2 v3 v4 v5 v6 v7 v8 v9 v10 v11 v12 v13 v14 v15 v16 v17 z z0 z1 z2 z3 z4 z5 z6 z7 z8 z9 z10 z11 z12 z13 z14 z15 z16 z17
        obtain ⟨z, z0, z1, z2, z3, z4, z5, z6, z7, z8, z9, z10, z11, z12, z13, z14, z15, z16, z17⟩ := HS.out
        skip
        exact bodyPost_ret (v := .tuple #[jobV noJb, .int .i64 5]) (by simp [results, Try.results28, go_sem, z0, z1, z2, z3, z4, z5, z6, z7, z8, jobV, jobA]) rfl ⟨by rw [HTL.out], HBS.out⟩
    · go_upto_region 5 with fail
      have HX5 : Hid (JobBox ((w1.alloc (.cells #[.int .i64 0, .int .i64 1, .int .i64 0, .int .i64 1, .int .i64 2, .int .i64 2, .int .i64 j.state] 3)).alloc (.cells #[.int .i64 0, .int .i64 0, .int .i64 1, .int .i64 2, .int .i64 3, .int .i64 4, .int .i64 5] 3)) w.heap.size j) := (HX1.out.alloc _).alloc _
      have HZ5 : Hid (JobBox ((w1.alloc (.cells #[.int .i64 0, .int .i64 1, .int .i64 0, .int .i64 1, .int .i64 2, .int .i64 2, .int .i64 j.state] 3)).alloc (.cells #[.int .i64 0, .int .i64 0, .int .i64 1, .int .i64 2, .int .i64 3, .int .i64 4, .int .i64 5] 3)) (w.heap.size + 1) noJb) := (HZ1.out.alloc _).alloc _
      have HB5 : Hid (Below w.heap.size w ((w1.alloc (.cells #[.int .i64 0, .int .i64 1, .int .i64 0, .int .i64 1, .int .i64 2, .int .i64 2, .int .i64 j.state] 3)).alloc (.cells #[.int .i64 0, .int .i64 0, .int .i64 1, .int .i64 2, .int .i64 3, .int .i64 4, .int .i64 5] 3))) := (HB1.out.alloc HB1.out.size _).alloc (Nat.le_trans HB1.out.size (by simp)) _
      generalize ((w1.alloc (.cells #[.int .i64 0, .int .i64 1, .int .i64 0, .int .i64 1, .int .i64 2, .int .i64 2, .int .i64 j.state] 3)).alloc (.cells #[.int .i64 0, .int .i64 0, .int .i64 1, .int .i64 2, .int .i64 3, .int .i64 4, .int .i64 5] 3)) = w5 at *
      clear x x0 x1 x2 x3 x4 x5 x6 x7 x8 HX1 HZ1 HB1
      obtain ⟨v, v0, v1, v2, v3, v4, v5, v6, v7, v8, v9, v10, v11, v12, v13, v14, v15, v16, v17⟩ := HX5.out
      obtain ⟨z, z0, z1, z2, z3, z4, z5, z6, z7, z8, z9, z10, z11, z12, z13, z14, z15, z16, z17⟩ := HZ5.out
      cases hd : (j.state != 2)
      · have hj : j.state = 2 := by simpa using hd
        have HTL : Hid (turnL j 5 t = if mayJ (⟨j.id, j.user, j.width, j.est, j.prio, j.sub, 4, j.start, t⟩ : Jb) then ((⟨j.id, j.user, j.width, j.est, j.prio, j.sub, 4, j.start, t⟩ : Jb), 0) else (noJb, 1)) := by have := HBB.out; rw [hts, hd, hnx hj] at this; exact this
        have hd2 : (j.state == 2) = true := by rw [hj]; rfl
        clear hj hts hnx HBB
        go_upto_region 12 with fail
        have HX7 : Hid (JobBox ((w5.setCell ⟨w.heap.size, 8, none⟩ (.int .i64 t)).setCell ⟨w.heap.size, 6, none⟩ (.int .i64 4)) w.heap.size (⟨j.id, j.user, j.width, j.est, j.prio, j.sub, 4, j.start, t⟩ : Jb)) := (HX5.out.set8 t).set6 4
        have HZ7 : Hid (JobBox ((w5.setCell ⟨w.heap.size, 8, none⟩ (.int .i64 t)).setCell ⟨w.heap.size, 6, none⟩ (.int .i64 4)) (w.heap.size + 1) noJb) := (HZ5.out.set_other (p := ⟨w.heap.size, 8, none⟩) (by simp) (.int .i64 t)).set_other (p := ⟨w.heap.size, 6, none⟩) (by simp) _
        have HB7 : Hid (Below w.heap.size w ((w5.setCell ⟨w.heap.size, 8, none⟩ (.int .i64 t)).setCell ⟨w.heap.size, 6, none⟩ (.int .i64 4))) := (HB5.out.setCell (p := ⟨w.heap.size, 8, none⟩) (Nat.le_refl _) (.int .i64 t)).setCell (p := ⟨w.heap.size, 6, none⟩) (Nat.le_refl _) _
        have CM2 := Lib.hid (fun W => may7 (⟨j.id, j.user, j.width, j.est, j.prio, j.sub, 4, j.start, t⟩ : Jb) W ⟨by dsimp only; omega, by dsimp only; omega, HF.out.2.2⟩)
        unfold jobV jobA at CM2
        dsimp only at CM2
        generalize ((w5.setCell ⟨w.heap.size, 8, none⟩ (.int .i64 t)).setCell ⟨w.heap.size, 6, none⟩ (.int .i64 4)) = w7 at *
        clear v v0 v1 v2 v3 v4 v5 v6 v7 v8 v9 v10 v11 v12 v13 v14 v15 v16 v17 HX5 HZ5 HB5 z z0 z1 z2 z3 z4 z5 z6 z7 z8 z9 z10 z11 z12 z13 z14 z15 z16 z17
        obtain ⟨v, v0, v1, v2, v3, v4, v5, v6, v7, v8, _, _, _, _, _, _, _, _, _⟩ := HX7.out
        dsimp only at v0 v1 v2 v3 v4 v5 v6 v7 v8
        have HX9 := Lib.hid (fun W (hb : Below w7.heap.size w7 W) => HX7.out.below hb)
        have HZ9 := Lib.hid (fun W (hb : Below w7.heap.size w7 W) => HZ7.out.below hb)
        have HB9 := Lib.hid (fun W (hb : Below w7.heap.size w7 W) => HB7.out.trans (hb.mono HB7.out.size))
        cases hm : mayJ (⟨j.id, j.user, j.width, j.est, j.prio, j.sub, 4, j.start, t⟩ : Jb)
        · rw [hm] at CM2
          have HTM : Hid (turnL j 5 t = (noJb, 1)) := by have := HTL.out; rw [hm] at this; exact this
          clear hm HTL
          go_wp2_with (go_at_call 20; refine (CM2.out _).mono ?_; rintro e w8 ⟨rfl, hb8⟩; have HB8 := Lib.hid (HB9.out w8 hb8); have HZ8 := Lib.hid (HZ9.out w8 hb8); obtain ⟨z, z0, z1, z2, z3, z4, z5, z6, z7, z8, z9, z10, z11, z12, z13, z14, z15, z16, z17⟩ := HZ8.out; have hx8 := HX9.out w8 hb8; clear hb8 HX9 HZ9 HB9 v v0 v1 v2 v3 v4 v5 v6 v7 v8; obtain ⟨v, v0, v1, v2, v3, v4, v5, v6, v7, v8, _, _, _, _, _, _, _, _, _⟩ := hx8; dsimp only at v0 v1 v2 v3 v4 v5 v6 v7 v8)
          change bodyPost _ _ _ Exit.ret _ (storedJ w8 (w.heap.size + 1) noJb)
          have HS := Lib.hid (HZ8.out.stored noJb)
          have HBS := Lib.hid (below_stored HB8.out (show w.heap.size ≤ w.heap.size + 1 by omega) noJb)
          generalize storedJ w8 (w.heap.size + 1) noJb = w9 at *
          clear v v0 v1 v2 v3 v4 v5 v6 v7 v8 z z0 z1 z2 z3 z4 z5 z6 z7 z8 z9 z10 z11 z12 z13 z14 z15 z16 z17
          obtain ⟨z, z0, z1, z2, z3, z4, z5, z6, z7, z8, z9, z10, z11, z12, z13, z14, z15, z16, z17⟩ := HS.out
          skip
          exact bodyPost_ret (v := .tuple #[jobV noJb, .int .i64 1]) (by simp [results, Try.results28, go_sem, z0, z1, z2, z3, z4, z5, z6, z7, z8, jobV, jobA]) rfl ⟨by rw [HTM.out], HBS.out⟩
        · rw [hm] at CM2
          have HTM : Hid (turnL j 5 t = ((⟨j.id, j.user, j.width, j.est, j.prio, j.sub, 4, j.start, t⟩ : Jb), 0)) := by have := HTL.out; rw [hm] at this; exact this
          clear hm HTL
          go_wp2_with (go_at_call 20; refine (CM2.out _).mono ?_; rintro e w8 ⟨rfl, hb8⟩; have HB8 := Lib.hid (HB9.out w8 hb8); have HZ8 := Lib.hid (HZ9.out w8 hb8); obtain ⟨z, z0, z1, z2, z3, z4, z5, z6, z7, z8, z9, z10, z11, z12, z13, z14, z15, z16, z17⟩ := HZ8.out; have hx8 := HX9.out w8 hb8; clear hb8 HX9 HZ9 HB9 v v0 v1 v2 v3 v4 v5 v6 v7 v8; obtain ⟨v, v0, v1, v2, v3, v4, v5, v6, v7, v8, _, _, _, _, _, _, _, _, _⟩ := hx8; dsimp only at v0 v1 v2 v3 v4 v5 v6 v7 v8)
          change bodyPost _ _ _ Exit.ret _ (storedJ w8 (w.heap.size + 1) (⟨j.id, j.user, j.width, j.est, j.prio, j.sub, 4, j.start, t⟩ : Jb))
          have HS := Lib.hid (HZ8.out.stored (⟨j.id, j.user, j.width, j.est, j.prio, j.sub, 4, j.start, t⟩ : Jb))
          have HBS := Lib.hid (below_stored HB8.out (show w.heap.size ≤ w.heap.size + 1 by omega) (⟨j.id, j.user, j.width, j.est, j.prio, j.sub, 4, j.start, t⟩ : Jb))
          generalize storedJ w8 (w.heap.size + 1) (⟨j.id, j.user, j.width, j.est, j.prio, j.sub, 4, j.start, t⟩ : Jb) = w9 at *
          clear v v0 v1 v2 v3 v4 v5 v6 v7 v8 z z0 z1 z2 z3 z4 z5 z6 z7 z8 z9 z10 z11 z12 z13 z14 z15 z16 z17
          obtain ⟨z, z0, z1, z2, z3, z4, z5, z6, z7, z8, z9, z10, z11, z12, z13, z14, z15, z16, z17⟩ := HS.out
          dsimp only at z0 z1 z2 z3 z4 z5 z6 z7 z8
          exact bodyPost_ret (v := .tuple #[jobV (⟨j.id, j.user, j.width, j.est, j.prio, j.sub, 4, j.start, t⟩ : Jb), .int .i64 0]) (by simp [results, Try.results28, go_sem, z0, z1, z2, z3, z4, z5, z6, z7, z8, jobV, jobA]) rfl ⟨by rw [HTM.out], HBS.out⟩
      · have HTL : Hid (turnL j 5 t = (noJb, 5)) := by have := HBB.out; rw [hts, hd] at this; exact this
        clear hts hnx HBB
        go_wp2_with fail
        change bodyPost _ _ _ Exit.ret _ (storedJ w5 (w.heap.size + 1) noJb)
        have HS := Lib.hid (HZ5.out.stored noJb)
        have HBS := Lib.hid (below_stored HB5.out (show w.heap.size ≤ w.heap.size + 1 by omega) noJb)
        generalize storedJ w5 (w.heap.size + 1) noJb = w9 at *
        clear v v0 v1 v2 v3 v4 v5 v6 v7 v8 v9 v10 v11 v12 v13 v14 v15 v16 v17 z z0 z1 z2 z3 z4 z5 z6 z7 z8 z9 z10 z11 z12 z13 z14 z15 z16 z17
        obtain ⟨z, z0, z1, z2, z3, z4, z5, z6, z7, z8, z9, z10, z11, z12, z13, z14, z15, z16, z17⟩ := HS.out
        skip
        exact bodyPost_ret (v := .tuple #[jobV noJb, .int .i64 5]) (by simp [results, Try.results28, go_sem, z0, z1, z2, z3, z4, z5, z6, z7, z8, jobV, jobA]) rfl ⟨by rw [HTL.out], HBS.out⟩
    · go_upto_region 5 with fail
      have HX5 : Hid (JobBox ((w1.alloc (.cells #[.int .i64 0, .int .i64 1, .int .i64 0, .int .i64 1, .int .i64 2, .int .i64 2, .int .i64 j.state] 3)).alloc (.cells #[.int .i64 0, .int .i64 0, .int .i64 1, .int .i64 2, .int .i64 3, .int .i64 4, .int .i64 5] 3)) w.heap.size j) := (HX1.out.alloc _).alloc _
      have HZ5 : Hid (JobBox ((w1.alloc (.cells #[.int .i64 0, .int .i64 1, .int .i64 0, .int .i64 1, .int .i64 2, .int .i64 2, .int .i64 j.state] 3)).alloc (.cells #[.int .i64 0, .int .i64 0, .int .i64 1, .int .i64 2, .int .i64 3, .int .i64 4, .int .i64 5] 3)) (w.heap.size + 1) noJb) := (HZ1.out.alloc _).alloc _
      have HB5 : Hid (Below w.heap.size w ((w1.alloc (.cells #[.int .i64 0, .int .i64 1, .int .i64 0, .int .i64 1, .int .i64 2, .int .i64 2, .int .i64 j.state] 3)).alloc (.cells #[.int .i64 0, .int .i64 0, .int .i64 1, .int .i64 2, .int .i64 3, .int .i64 4, .int .i64 5] 3))) := (HB1.out.alloc HB1.out.size _).alloc (Nat.le_trans HB1.out.size (by simp)) _
      generalize ((w1.alloc (.cells #[.int .i64 0, .int .i64 1, .int .i64 0, .int .i64 1, .int .i64 2, .int .i64 2, .int .i64 j.state] 3)).alloc (.cells #[.int .i64 0, .int .i64 0, .int .i64 1, .int .i64 2, .int .i64 3, .int .i64 4, .int .i64 5] 3)) = w5 at *
      clear x x0 x1 x2 x3 x4 x5 x6 x7 x8 HX1 HZ1 HB1
      obtain ⟨v, v0, v1, v2, v3, v4, v5, v6, v7, v8, v9, v10, v11, v12, v13, v14, v15, v16, v17⟩ := HX5.out
      obtain ⟨z, z0, z1, z2, z3, z4, z5, z6, z7, z8, z9, z10, z11, z12, z13, z14, z15, z16, z17⟩ := HZ5.out
      have hd0 : (j.state != j.state) = false := by simp
      cases hd : decide (2 < j.state)
      · cases hd2 : (j.state == 2)
        · have hj : ¬ j.state = 2 := by simpa using hd2
          have HTL : Hid (turnL j 6 t = if mayJ (⟨j.id, j.user, j.width, j.est, j.prio, j.sub, 5, j.start, j.fin⟩ : Jb) then ((⟨j.id, j.user, j.width, j.est, j.prio, j.sub, 5, j.start, j.fin⟩ : Jb), 0) else (noJb, 1)) := by have := HBB.out; rw [hts, hd, hnx, if_neg hj] at this; exact this
          clear hj hts hnx HBB
          go_upto_region 12 with fail
          have HX7 : Hid (JobBox (w5.setCell ⟨w.heap.size, 6, none⟩ (.int .i64 5)) w.heap.size (⟨j.id, j.user, j.width, j.est, j.prio, j.sub, 5, j.start, j.fin⟩ : Jb)) := HX5.out.set6 5
          have HZ7 : Hid (JobBox (w5.setCell ⟨w.heap.size, 6, none⟩ (.int .i64 5)) (w.heap.size + 1) noJb) := HZ5.out.set_other (p := ⟨w.heap.size, 6, none⟩) (by simp) _
          have HB7 : Hid (Below w.heap.size w (w5.setCell ⟨w.heap.size, 6, none⟩ (.int .i64 5))) := HB5.out.setCell (p := ⟨w.heap.size, 6, none⟩) (Nat.le_refl _) _
          have CM2 := Lib.hid (fun W => may7 (⟨j.id, j.user, j.width, j.est, j.prio, j.sub, 5, j.start, j.fin⟩ : Jb) W ⟨HF.out.1, HF.out.2.1, HF.out.2.2⟩)
          unfold jobV jobA at CM2
          dsimp only at CM2
          generalize (w5.setCell ⟨w.heap.size, 6, none⟩ (.int .i64 5)) = w7 at *
          clear v v0 v1 v2 v3 v4 v5 v6 v7 v8 v9 v10 v11 v12 v13 v14 v15 v16 v17 HX5 HZ5 HB5 z z0 z1 z2 z3 z4 z5 z6 z7 z8 z9 z10 z11 z12 z13 z14 z15 z16 z17
          obtain ⟨v, v0, v1, v2, v3, v4, v5, v6, v7, v8, _, _, _, _, _, _, _, _, _⟩ := HX7.out
          dsimp only at v0 v1 v2 v3 v4 v5 v6 v7 v8
          have HX9 := Lib.hid (fun W (hb : Below w7.heap.size w7 W) => HX7.out.below hb)
          have HZ9 := Lib.hid (fun W (hb : Below w7.heap.size w7 W) => HZ7.out.below hb)
          have HB9 := Lib.hid (fun W (hb : Below w7.heap.size w7 W) => HB7.out.trans (hb.mono HB7.out.size))
          cases hm : mayJ (⟨j.id, j.user, j.width, j.est, j.prio, j.sub, 5, j.start, j.fin⟩ : Jb)
          · rw [hm] at CM2
            have HTM : Hid (turnL j 6 t = (noJb, 1)) := by have := HTL.out; rw [hm] at this; exact this
            clear hm HTL
            go_wp2_with (go_at_call 20; refine (CM2.out _).mono ?_; rintro e w8 ⟨rfl, hb8⟩; have HB8 := Lib.hid (HB9.out w8 hb8); have HZ8 := Lib.hid (HZ9.out w8 hb8); obtain ⟨z, z0, z1, z2, z3, z4, z5, z6, z7, z8, z9, z10, z11, z12, z13, z14, z15, z16, z17⟩ := HZ8.out; have hx8 := HX9.out w8 hb8; clear hb8 HX9 HZ9 HB9 v v0 v1 v2 v3 v4 v5 v6 v7 v8; obtain ⟨v, v0, v1, v2, v3, v4, v5, v6, v7, v8, _, _, _, _, _, _, _, _, _⟩ := hx8; dsimp only at v0 v1 v2 v3 v4 v5 v6 v7 v8)
            change bodyPost _ _ _ Exit.ret _ (storedJ w8 (w.heap.size + 1) noJb)
            have HS := Lib.hid (HZ8.out.stored noJb)
            have HBS := Lib.hid (below_stored HB8.out (show w.heap.size ≤ w.heap.size + 1 by omega) noJb)
            generalize storedJ w8 (w.heap.size + 1) noJb = w9 at *
            clear v v0 v1 v2 v3 v4 v5 v6 v7 v8 z z0 z1 z2 z3 z4 z5 z6 z7 z8 z9 z10 z11 z12 z13 z14 z15 z16 z17
            obtain ⟨z, z0, z1, z2, z3, z4, z5, z6, z7, z8, z9, z10, z11, z12, z13, z14, z15, z16, z17⟩ := HS.out
            skip
            exact bodyPost_ret (v := .tuple #[jobV noJb, .int .i64 1]) (by simp [results, Try.results28, go_sem, z0, z1, z2, z3, z4, z5, z6, z7, z8, jobV, jobA]) rfl ⟨by rw [HTM.out], HBS.out⟩
          · rw [hm] at CM2
            have HTM : Hid (turnL j 6 t = ((⟨j.id, j.user, j.width, j.est, j.prio, j.sub, 5, j.start, j.fin⟩ : Jb), 0)) := by have := HTL.out; rw [hm] at this; exact this
            clear hm HTL
            go_wp2_with (go_at_call 20; refine (CM2.out _).mono ?_; rintro e w8 ⟨rfl, hb8⟩; have HB8 := Lib.hid (HB9.out w8 hb8); have HZ8 := Lib.hid (HZ9.out w8 hb8); obtain ⟨z, z0, z1, z2, z3, z4, z5, z6, z7, z8, z9, z10, z11, z12, z13, z14, z15, z16, z17⟩ := HZ8.out; have hx8 := HX9.out w8 hb8; clear hb8 HX9 HZ9 HB9 v v0 v1 v2 v3 v4 v5 v6 v7 v8; obtain ⟨v, v0, v1, v2, v3, v4, v5, v6, v7, v8, _, _, _, _, _, _, _, _, _⟩ := hx8; dsimp only at v0 v1 v2 v3 v4 v5 v6 v7 v8)
            change bodyPost _ _ _ Exit.ret _ (storedJ w8 (w.heap.size + 1) (⟨j.id, j.user, j.width, j.est, j.prio, j.sub, 5, j.start, j.fin⟩ : Jb))
            have HS := Lib.hid (HZ8.out.stored (⟨j.id, j.user, j.width, j.est, j.prio, j.sub, 5, j.start, j.fin⟩ : Jb))
            have HBS := Lib.hid (below_stored HB8.out (show w.heap.size ≤ w.heap.size + 1 by omega) (⟨j.id, j.user, j.width, j.est, j.prio, j.sub, 5, j.start, j.fin⟩ : Jb))
            generalize storedJ w8 (w.heap.size + 1) (⟨j.id, j.user, j.width, j.est, j.prio, j.sub, 5, j.start, j.fin⟩ : Jb) = w9 at *
            clear v v0 v1 v2 v3 v4 v5 v6 v7 v8 z z0 z1 z2 z3 z4 z5 z6 z7 z8 z9 z10 z11 z12 z13 z14 z15 z16 z17
            obtain ⟨z, z0, z1, z2, z3, z4, z5, z6, z7, z8, z9, z10, z11, z12, z13, z14, z15, z16, z17⟩ := HS.out
            dsimp only at z0 z1 z2 z3 z4 z5 z6 z7 z8
            exact bodyPost_ret (v := .tuple #[jobV (⟨j.id, j.user, j.width, j.est, j.prio, j.sub, 5, j.start, j.fin⟩ : Jb), .int .i64 0]) (by simp [results, Try.results28, go_sem, z0, z1, z2, z3, z4, z5, z6, z7, z8, jobV, jobA]) rfl ⟨by rw [HTM.out], HBS.out⟩
        · have hj : j.state = 2 := by simpa using hd2
          have HTL : Hid (turnL j 6 t = if mayJ (⟨j.id, j.user, j.width, j.est, j.prio, j.sub, 5, j.start, t⟩ : Jb) then ((⟨j.id, j.user, j.width, j.est, j.prio, j.sub, 5, j.start, t⟩ : Jb), 0) else (noJb, 1)) := by have := HBB.out; rw [hts, hd, hnx, if_pos hj] at this; exact this
          clear hj hts hnx HBB
          go_upto_region 12 with fail
          have HX7 : Hid (JobBox ((w5.setCell ⟨w.heap.size, 8, none⟩ (.int .i64 t)).setCell ⟨w.heap.size, 6, none⟩ (.int .i64 5)) w.heap.size (⟨j.id, j.user, j.width, j.est, j.prio, j.sub, 5, j.start, t⟩ : Jb)) := (HX5.out.set8 t).set6 5
          have HZ7 : Hid (JobBox ((w5.setCell ⟨w.heap.size, 8, none⟩ (.int .i64 t)).setCell ⟨w.heap.size, 6, none⟩ (.int .i64 5)) (w.heap.size + 1) noJb) := (HZ5.out.set_other (p := ⟨w.heap.size, 8, none⟩) (by simp) (.int .i64 t)).set_other (p := ⟨w.heap.size, 6, none⟩) (by simp) _
          have HB7 : Hid (Below w.heap.size w ((w5.setCell ⟨w.heap.size, 8, none⟩ (.int .i64 t)).setCell ⟨w.heap.size, 6, none⟩ (.int .i64 5))) := (HB5.out.setCell (p := ⟨w.heap.size, 8, none⟩) (Nat.le_refl _) (.int .i64 t)).setCell (p := ⟨w.heap.size, 6, none⟩) (Nat.le_refl _) _
          have CM2 := Lib.hid (fun W => may7 (⟨j.id, j.user, j.width, j.est, j.prio, j.sub, 5, j.start, t⟩ : Jb) W ⟨by dsimp only; omega, by dsimp only; omega, HF.out.2.2⟩)
          unfold jobV jobA at CM2
          dsimp only at CM2
          generalize ((w5.setCell ⟨w.heap.size, 8, none⟩ (.int .i64 t)).setCell ⟨w.heap.size, 6, none⟩ (.int .i64 5)) = w7 at *
          clear v v0 v1 v2 v3 v4 v5 v6 v7 v8 v9 v10 v11 v12 v13 v14 v15 v16 v17 HX5 HZ5 HB5 z z0 z1 z2 z3 z4 z5 z6 z7 z8 z9 z10 z11 z12 z13 z14 z15 z16 z17
          obtain ⟨v, v0, v1, v2, v3, v4, v5, v6, v7, v8, _, _, _, _, _, _, _, _, _⟩ := HX7.out
          dsimp only at v0 v1 v2 v3 v4 v5 v6 v7 v8
          have HX9 := Lib.hid (fun W (hb : Below w7.heap.size w7 W) => HX7.out.below hb)
          have HZ9 := Lib.hid (fun W (hb : Below w7.heap.size w7 W) => HZ7.out.below hb)
          have HB9 := Lib.hid (fun W (hb : Below w7.heap.size w7 W) => HB7.out.trans (hb.mono HB7.out.size))
          cases hm : mayJ (⟨j.id, j.user, j.width, j.est, j.prio, j.sub, 5, j.start, t⟩ : Jb)
          · rw [hm] at CM2
            have HTM : Hid (turnL j 6 t = (noJb, 1)) := by have := HTL.out; rw [hm] at this; exact this
            clear hm HTL
            go_wp2_with (go_at_call 20; refine (CM2.out _).mono ?_; rintro e w8 ⟨rfl, hb8⟩; have HB8 := Lib.hid (HB9.out w8 hb8); have HZ8 := Lib.hid (HZ9.out w8 hb8); obtain ⟨z, z0, z1, z2, z3, z4, z5, z6, z7, z8, z9, z10, z11, z12, z13, z14, z15, z16, z17⟩ := HZ8.out; have hx8 := HX9.out w8 hb8; clear hb8 HX9 HZ9 HB9 v v0 v1 v2 v3 v4 v5 v6 v7 v8; obtain ⟨v, v0, v1, v2, v3, v4, v5, v6, v7, v8, _, _, _, _, _, _, _, _, _⟩ := hx8; dsimp only at v0 v1 v2 v3 v4 v5 v6 v7 v8)
            change bodyPost _ _ _ Exit.ret _ (storedJ w8 (w.heap.size + 1) noJb)
            have HS := Lib.hid (HZ8.out.stored noJb)
            have HBS := Lib.hid (below_stored HB8.out (show w.heap.size ≤ w.heap.size + 1 by omega) noJb)
            generalize storedJ w8 (w.heap.size + 1) noJb = w9 at *
            clear v v0 v1 v2 v3 v4 v5 v6 v7 v8 z z0 z1 z2 z3 z4 z5 z6 z7 z8 z9 z10 z11 z12 z13 z14 z15 z16 z17
            obtain ⟨z, z0, z1, z2, z3, z4, z5, z6, z7, z8, z9, z10, z11, z12, z13, z14, z15, z16, z17⟩ := HS.out
            skip
            exact bodyPost_ret (v := .tuple #[jobV noJb, .int .i64 1]) (by simp [results, Try.results28, go_sem, z0, z1, z2, z3, z4, z5, z6, z7, z8, jobV, jobA]) rfl ⟨by rw [HTM.out], HBS.out⟩
          · rw [hm] at CM2
            have HTM : Hid (turnL j 6 t = ((⟨j.id, j.user, j.width, j.est, j.prio, j.sub, 5, j.start, t⟩ : Jb), 0)) := by have := HTL.out; rw [hm] at this; exact this
            clear hm HTL
            go_wp2_with (go_at_call 20; refine (CM2.out _).mono ?_; rintro e w8 ⟨rfl, hb8⟩; have HB8 := Lib.hid (HB9.out w8 hb8); have HZ8 := Lib.hid (HZ9.out w8 hb8); obtain ⟨z, z0, z1, z2, z3, z4, z5, z6, z7, z8, z9, z10, z11, z12, z13, z14, z15, z16, z17⟩ := HZ8.out; have hx8 := HX9.out w8 hb8; clear hb8 HX9 HZ9 HB9 v v0 v1 v2 v3 v4 v5 v6 v7 v8; obtain ⟨v, v0, v1, v2, v3, v4, v5, v6, v7, v8, _, _, _, _, _, _, _, _, _⟩ := hx8; dsimp only at v0 v1 v2 v3 v4 v5 v6 v7 v8)
            change bodyPost _ _ _ Exit.ret _ (storedJ w8 (w.heap.size + 1) (⟨j.id, j.user, j.width, j.est, j.prio, j.sub, 5, j.start, t⟩ : Jb))
            have HS := Lib.hid (HZ8.out.stored (⟨j.id, j.user, j.width, j.est, j.prio, j.sub, 5, j.start, t⟩ : Jb))
            have HBS := Lib.hid (below_stored HB8.out (show w.heap.size ≤ w.heap.size + 1 by omega) (⟨j.id, j.user, j.width, j.est, j.prio, j.sub, 5, j.start, t⟩ : Jb))
            generalize storedJ w8 (w.heap.size + 1) (⟨j.id, j.user, j.width, j.est, j.prio, j.sub, 5, j.start, t⟩ : Jb) = w9 at *
            clear v v0 v1 v2 v3 v4 v5 v6 v7 v8 z z0 z1 z2 z3 z4 z5 z6 z7 z8 z9 z10 z11 z12 z13 z14 z15 z16 z17
            obtain ⟨z, z0, z1, z2, z3, z4, z5, z6, z7, z8, z9, z10, z11, z12, z13, z14, z15, z16, z17⟩ := HS.out
            dsimp only at z0 z1 z2 z3 z4 z5 z6 z7 z8
            exact bodyPost_ret (v := .tuple #[jobV (⟨j.id, j.user, j.width, j.est, j.prio, j.sub, 5, j.start, t⟩ : Jb), .int .i64 0]) (by simp [results, Try.results28, go_sem, z0, z1, z2, z3, z4, z5, z6, z7, z8, jobV, jobA]) rfl ⟨by rw [HTM.out], HBS.out⟩
      · have HTL : Hid (turnL j 6 t = (noJb, 5)) := by have := HBB.out; rw [hts, hd] at this; exact this
        clear hts hnx HBB
        go_wp2_with fail
        change bodyPost _ _ _ Exit.ret _ (storedJ w5 (w.heap.size + 1) noJb)
        have HS := Lib.hid (HZ5.out.stored noJb)
        have HBS := Lib.hid (below_stored HB5.out (show w.heap.size ≤ w.heap.size + 1 by omega) noJb)
        generalize storedJ w5 (w.heap.size + 1) noJb = w9 at *
        clear v v0 v1 v2 v3 v4 v5 v6 v7 v8 v9 v10 v11 v12 v13 v14 v15 v16 v17 z z0 z1 z2 z3 z4 z5 z6 z7 z8 z9 z10 z11 z12 z13 z14 z15 z16 z17
        obtain ⟨z, z0, z1, z2, z3, z4, z5, z6, z7, z8, z9, z10, z11, z12, z13, z14, z15, z16, z17⟩ := HS.out
        skip
        exact bodyPost_ret (v := .tuple #[jobV noJb, .int .i64 5]) (by simp [results, Try.results28, go_sem, z0, z1, z2, z3, z4, z5, z6, z7, z8, jobV, jobA]) rfl ⟨by rw [HTL.out], HBS.out⟩
end Go.Proofs.Ytjegkddpaampmaa.JobRef
