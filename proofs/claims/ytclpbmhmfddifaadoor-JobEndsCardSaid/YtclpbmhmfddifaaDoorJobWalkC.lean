/-
  The walks of layer 7's code: after.
-/
import Derived.Test.YtclpbmhmfddifaaDoorJobWalkB
import Derived.StillTailTactics
namespace Go.Proofs.YtclpbmhmfddifaaDoor.JobWalk
open Go.RowKit Go.Proofs.YtclpbmhmfddifaaDoor.JobPlain Go.Proofs.YtclpbmhmfddifaaDoor.Mem Go.Proofs.YtclpbmhmfddifaaDoor.JobMem Go.Proofs.YtclpbmhmfddifaaDoor.JobRef
def AfterIs (j : Jb) (ev t : Int) (w : World) (e : Ending) (w' : World) : Prop := ∃ x, e = .returned (.tuple #[jobV x, .bool (!turnState j ev)]) ∧ (turnState j ev = false → x = nextJ j ev t) ∧ Below w.heap.size w w'
theorem live_not {s : Int} (h : 0 ≤ s) : decide (2 < s) = !liveSt s := by
  unfold liveSt
  rw [Bool.eq_iff_iff]
  simp only [decide_eq_true_eq, Bool.not_eq_true', Bool.or_eq_false_iff, beq_eq_false_iff_ne]
  omega
theorem isLive_still (s : Int) (w : World) : Calls Tryd.prog 21 #[.int .i64 s] w (fun e w2 => e = .returned (.bool (liveSt s)) ∧ w2 = w) :=
  (isLive_any s w).mono fun e w2 h => ⟨h.1, Eq.symm h.2⟩
theorem six_way {j : Jb} {t : Int} (h : (∃ f s : Int, ∃ b : Bool, (((6 : Int) = 1 ∧ f = 1 ∧ s = 0 ∧ b = false) ∨ ((6 : Int) = 2 ∧ f = 0 ∧ s = 1 ∧ b = false) ∨ ((6 : Int) = 3 ∧ f = 1 ∧ s = 2 ∧ b = true) ∨ ((6 : Int) = 4 ∧ f = 2 ∧ s = 3 ∧ b = false) ∨ ((6 : Int) = 5 ∧ f = 2 ∧ s = 4 ∧ b = false)) ∧
      turnState j 6 = (j.state != f) ∧ (j.state = f → nextJ j 6 t = ⟨j.id, j.user, j.width, j.est, j.prio, j.sub, s, if b then t else j.start, if f = 2 then t else j.fin⟩)) ∨
    ((6 : Int) = 6 ∧ turnState j 6 = decide (2 < j.state) ∧ nextJ j 6 t = ⟨j.id, j.user, j.width, j.est, j.prio, j.sub, 5, j.start, if j.state = 2 then t else j.fin⟩)) :
    turnState j 6 = decide (2 < j.state) ∧ nextJ j 6 t = ⟨j.id, j.user, j.width, j.est, j.prio, j.sub, 5, j.start, if j.state = 2 then t else j.fin⟩ := by
  rcases h with ⟨f, s, b, h, _⟩ | ⟨_, h⟩
  · omega
  · exact h
set_option maxRecDepth 100000 in
set_option maxHeartbeats 6400000 in
theorem after6 (j : Jb) (t : Int) (w : World) (h0 : 0 ≤ j.state) : Calls Tryd.prog 18 #[jobV j, .int .i64 6, .int .i64 t] w (AfterIs j 6 t w) := by
  have HH := Lib.hid (two_jobs w j 23)
  have hev := ev_ways j 6 t rfl rfl
  unfold jobV jobA
  go_enter Tryd.func18, Tryd.ntmps18
  go_upto_region 1 with fail
  generalize ((w.alloc (.cells #[.int .i64 j.id, .string j.user, .int .i64 j.width, .int .i64 j.est, .int .i64 j.prio, .int .i64 j.sub, .int .i64 j.state, .int .i64 j.start, .int .i64 j.fin] 23)).alloc (.cells #[.int .i64 0, .string ⟨#[]⟩, .int .i64 0, .int .i64 0, .int .i64 0, .int .i64 0, .int .i64 0, .int .i64 0, .int .i64 0] 23)) = W at *
  have HX := Lib.hid HH.out.1
  have HZ := Lib.hid HH.out.2.1
  have HB := Lib.hid HH.out.2.2
  obtain ⟨y, y0, y1, y2, y3, y4, y5, y6, y7, y8, y9, y10, y11, y12, y13, y14, y15, y16, y17⟩ := HX.out
  obtain ⟨z, z0, z1, z2, z3, z4, z5, z6, z7, z8, z9, z10, z11, z12, z13, z14, z15, z16, z17⟩ := HZ.out
  clear HH
  have hev2 := six_way hev
  clear hev
  obtain ⟨hts, hnx⟩ := hev2
  have HTS : Hid (turnState j 6 = !liveSt j.state) := Lib.hid (hts.trans (live_not h0))
  clear hts
  cases hd : (j.state == 2)
  · have HNX : Hid (turnState j 6 = false → (⟨j.id, j.user, j.width, j.est, j.prio, j.sub, 5, j.start, j.fin⟩ : Jb) = nextJ j 6 t) := Lib.hid (fun _ => by rw [hnx, if_neg (by simpa using hd)])
    clear hnx
    go_upto_region 22 with fail
    have HX7 : Hid (JobBox (W.setCell ⟨w.heap.size, 6, none⟩ (.int .i64 5)) w.heap.size (⟨j.id, j.user, j.width, j.est, j.prio, j.sub, 5, j.start, j.fin⟩ : Jb)) := (HX.out.set6 5)
    have HZ7 : Hid (JobBox (W.setCell ⟨w.heap.size, 6, none⟩ (.int .i64 5)) (w.heap.size + 1) noJb) := (HZ.out.set_other (p := ⟨w.heap.size, 6, none⟩) (by simp) (.int .i64 5))
    have HB7 : Hid (Below w.heap.size w (W.setCell ⟨w.heap.size, 6, none⟩ (.int .i64 5))) := (HB.out.setCell (p := ⟨w.heap.size, 6, none⟩) (Nat.le_refl _) (.int .i64 5))
    generalize (W.setCell ⟨w.heap.size, 6, none⟩ (.int .i64 5)) = w7 at *
    clear HX HZ HB y y0 y1 y2 y3 y4 y5 y6 y7 y8 y9 y10 y11 y12 y13 y14 y15 y16 y17 z z0 z1 z2 z3 z4 z5 z6 z7 z8 z9 z10 z11 z12 z13 z14 z15 z16 z17
    obtain ⟨v, v0, v1, v2, v3, v4, v5, v6, v7, v8, _, _, _, _, _, _, _, _, _⟩ := HX7.out
    obtain ⟨z, z0, z1, z2, z3, z4, z5, z6, z7, z8, z9, z10, z11, z12, z13, z14, z15, z16, z17⟩ := HZ7.out
    dsimp only at v0 v1 v2 v3 v4 v5 v6 v7 v8
    have HL := Lib.hid (fun W => isLive_still j.state W)
    have HX8 := Lib.hid (HX7.out.below ((Below.refl _ _).drew))
    have HZ8 := Lib.hid (HZ7.out.below ((Below.refl _ _).drew))
    have HB8 := Lib.hid (below_then HB7.out ((Below.refl _ _).drew))
    go_still_tail 3, (by kernel_rfl)
    still_call (HL.out _)
    refine wpStill_nil ?_
    change wpList _ _ _ _ _ w7.drew
    generalize w7.drew = w8 at *
    clear v v0 v1 v2 v3 v4 v5 v6 v7 v8 z z0 z1 z2 z3 z4 z5 z6 z7 z8 z9 z10 z11 z12 z13 z14 z15 z16 z17
    obtain ⟨v, v0, v1, v2, v3, v4, v5, v6, v7, v8, _, _, _, _, _, _, _, _, _⟩ := HX8.out
    obtain ⟨z, z0, z1, z2, z3, z4, z5, z6, z7, z8, z9, z10, z11, z12, z13, z14, z15, z16, z17⟩ := HZ8.out
    dsimp only at v0 v1 v2 v3 v4 v5 v6 v7 v8
    go_wp2_with fail
    change bodyPost _ _ _ Exit.ret _ (storedJ w8 (w.heap.size + 1) (⟨j.id, j.user, j.width, j.est, j.prio, j.sub, 5, j.start, j.fin⟩ : Jb))
    have HS := Lib.hid (HZ8.out.stored (⟨j.id, j.user, j.width, j.est, j.prio, j.sub, 5, j.start, j.fin⟩ : Jb))
    have HBS := Lib.hid (below_stored HB8.out (show w.heap.size ≤ w.heap.size + 1 by omega) (⟨j.id, j.user, j.width, j.est, j.prio, j.sub, 5, j.start, j.fin⟩ : Jb))
    generalize storedJ w8 (w.heap.size + 1) (⟨j.id, j.user, j.width, j.est, j.prio, j.sub, 5, j.start, j.fin⟩ : Jb) = w9 at *
    clear v v0 v1 v2 v3 v4 v5 v6 v7 v8 z z0 z1 z2 z3 z4 z5 z6 z7 z8 z9 z10 z11 z12 z13 z14 z15 z16 z17
    obtain ⟨z, z0, z1, z2, z3, z4, z5, z6, z7, z8, z9, z10, z11, z12, z13, z14, z15, z16, z17⟩ := HS.out
    dsimp only at z0 z1 z2 z3 z4 z5 z6 z7 z8
    exact bodyPost_ret (v := .tuple #[jobV (⟨j.id, j.user, j.width, j.est, j.prio, j.sub, 5, j.start, j.fin⟩ : Jb), .bool (liveSt j.state)]) (by simp [results, Tryd.results18, go_sem, z0, z1, z2, z3, z4, z5, z6, z7, z8, jobV, jobA]) rfl ⟨(⟨j.id, j.user, j.width, j.est, j.prio, j.sub, 5, j.start, j.fin⟩ : Jb), by rw [HTS.out, Bool.not_not], HNX.out, HBS.out⟩
  · have HNX : Hid (turnState j 6 = false → (⟨j.id, j.user, j.width, j.est, j.prio, j.sub, 5, j.start, t⟩ : Jb) = nextJ j 6 t) := Lib.hid (fun _ => by rw [hnx, if_pos (by simpa using hd)])
    clear hnx
    go_upto_region 22 with fail
    have HX7 : Hid (JobBox ((W.setCell ⟨w.heap.size, 6, none⟩ (.int .i64 5)).setCell ⟨w.heap.size, 8, none⟩ (.int .i64 t)) w.heap.size (⟨j.id, j.user, j.width, j.est, j.prio, j.sub, 5, j.start, t⟩ : Jb)) := ((HX.out.set6 5).set8 t)
    have HZ7 : Hid (JobBox ((W.setCell ⟨w.heap.size, 6, none⟩ (.int .i64 5)).setCell ⟨w.heap.size, 8, none⟩ (.int .i64 t)) (w.heap.size + 1) noJb) := ((HZ.out.set_other (p := ⟨w.heap.size, 6, none⟩) (by simp) (.int .i64 5)).set_other (p := ⟨w.heap.size, 8, none⟩) (by simp) (.int .i64 t))
    have HB7 : Hid (Below w.heap.size w ((W.setCell ⟨w.heap.size, 6, none⟩ (.int .i64 5)).setCell ⟨w.heap.size, 8, none⟩ (.int .i64 t))) := ((HB.out.setCell (p := ⟨w.heap.size, 6, none⟩) (Nat.le_refl _) (.int .i64 5)).setCell (p := ⟨w.heap.size, 8, none⟩) (Nat.le_refl _) (.int .i64 t))
    generalize ((W.setCell ⟨w.heap.size, 6, none⟩ (.int .i64 5)).setCell ⟨w.heap.size, 8, none⟩ (.int .i64 t)) = w7 at *
    clear HX HZ HB y y0 y1 y2 y3 y4 y5 y6 y7 y8 y9 y10 y11 y12 y13 y14 y15 y16 y17 z z0 z1 z2 z3 z4 z5 z6 z7 z8 z9 z10 z11 z12 z13 z14 z15 z16 z17
    obtain ⟨v, v0, v1, v2, v3, v4, v5, v6, v7, v8, _, _, _, _, _, _, _, _, _⟩ := HX7.out
    obtain ⟨z, z0, z1, z2, z3, z4, z5, z6, z7, z8, z9, z10, z11, z12, z13, z14, z15, z16, z17⟩ := HZ7.out
    dsimp only at v0 v1 v2 v3 v4 v5 v6 v7 v8
    have HL := Lib.hid (fun W => isLive_still j.state W)
    have HX8 := Lib.hid (HX7.out.below ((Below.refl _ _).drew))
    have HZ8 := Lib.hid (HZ7.out.below ((Below.refl _ _).drew))
    have HB8 := Lib.hid (below_then HB7.out ((Below.refl _ _).drew))
    go_still_tail 3, (by kernel_rfl)
    still_call (HL.out _)
    refine wpStill_nil ?_
    change wpList _ _ _ _ _ w7.drew
    generalize w7.drew = w8 at *
    clear v v0 v1 v2 v3 v4 v5 v6 v7 v8 z z0 z1 z2 z3 z4 z5 z6 z7 z8 z9 z10 z11 z12 z13 z14 z15 z16 z17
    obtain ⟨v, v0, v1, v2, v3, v4, v5, v6, v7, v8, _, _, _, _, _, _, _, _, _⟩ := HX8.out
    obtain ⟨z, z0, z1, z2, z3, z4, z5, z6, z7, z8, z9, z10, z11, z12, z13, z14, z15, z16, z17⟩ := HZ8.out
    dsimp only at v0 v1 v2 v3 v4 v5 v6 v7 v8
    go_wp2_with fail
    change bodyPost _ _ _ Exit.ret _ (storedJ w8 (w.heap.size + 1) (⟨j.id, j.user, j.width, j.est, j.prio, j.sub, 5, j.start, t⟩ : Jb))
    have HS := Lib.hid (HZ8.out.stored (⟨j.id, j.user, j.width, j.est, j.prio, j.sub, 5, j.start, t⟩ : Jb))
    have HBS := Lib.hid (below_stored HB8.out (show w.heap.size ≤ w.heap.size + 1 by omega) (⟨j.id, j.user, j.width, j.est, j.prio, j.sub, 5, j.start, t⟩ : Jb))
    generalize storedJ w8 (w.heap.size + 1) (⟨j.id, j.user, j.width, j.est, j.prio, j.sub, 5, j.start, t⟩ : Jb) = w9 at *
    clear v v0 v1 v2 v3 v4 v5 v6 v7 v8 z z0 z1 z2 z3 z4 z5 z6 z7 z8 z9 z10 z11 z12 z13 z14 z15 z16 z17
    obtain ⟨z, z0, z1, z2, z3, z4, z5, z6, z7, z8, z9, z10, z11, z12, z13, z14, z15, z16, z17⟩ := HS.out
    dsimp only at z0 z1 z2 z3 z4 z5 z6 z7 z8
    exact bodyPost_ret (v := .tuple #[jobV (⟨j.id, j.user, j.width, j.est, j.prio, j.sub, 5, j.start, t⟩ : Jb), .bool (liveSt j.state)]) (by simp [results, Tryd.results18, go_sem, z0, z1, z2, z3, z4, z5, z6, z7, z8, jobV, jobA]) rfl ⟨(⟨j.id, j.user, j.width, j.est, j.prio, j.sub, 5, j.start, t⟩ : Jb), by rw [HTS.out, Bool.not_not], HNX.out, HBS.out⟩
set_option maxRecDepth 100000 in
set_option maxHeartbeats 6400000 in
theorem after_any (j : Jb) (ev t : Int) (w : World) (h1 : decide (ev < 1) = false) (h2 : decide (6 < ev) = false) (h0 : 0 ≤ j.state) : Calls Tryd.prog 18 #[jobV j, .int .i64 ev, .int .i64 t] w (AfterIs j ev t w) := by
  have HH := Lib.hid (two_jobs w j 23)
  have hev := ev_ways j ev t h1 h2
  by_cases h6 : ev = 6
  · subst h6; exact after6 j t w h0
  unfold jobV jobA
  go_enter Tryd.func18, Tryd.ntmps18
  go_upto_region 1 with fail
  generalize ((w.alloc (.cells #[.int .i64 j.id, .string j.user, .int .i64 j.width, .int .i64 j.est, .int .i64 j.prio, .int .i64 j.sub, .int .i64 j.state, .int .i64 j.start, .int .i64 j.fin] 23)).alloc (.cells #[.int .i64 0, .string ⟨#[]⟩, .int .i64 0, .int .i64 0, .int .i64 0, .int .i64 0, .int .i64 0, .int .i64 0, .int .i64 0] 23)) = W at *
  have HX := Lib.hid HH.out.1
  have HZ := Lib.hid HH.out.2.1
  have HB := Lib.hid HH.out.2.2
  obtain ⟨y, y0, y1, y2, y3, y4, y5, y6, y7, y8, y9, y10, y11, y12, y13, y14, y15, y16, y17⟩ := HX.out
  obtain ⟨z, z0, z1, z2, z3, z4, z5, z6, z7, z8, z9, z10, z11, z12, z13, z14, z15, z16, z17⟩ := HZ.out
  clear HH h1 h2
  rcases hev with ⟨f, s, b, ⟨rfl, rfl, rfl, rfl⟩ | ⟨rfl, rfl, rfl, rfl⟩ | ⟨rfl, rfl, rfl, rfl⟩ | ⟨rfl, rfl, rfl, rfl⟩ | ⟨rfl, rfl, rfl, rfl⟩, hts, hnx⟩ | ⟨rfl, hts, hnx⟩
  · cases hd : (j.state == 1)
    · have HTS : Hid (turnState j 1 = true) := by rw [hts]; show (!(j.state == 1)) = _; rw [hd]; rfl
      have HNX : Hid (turnState j 1 = false → (⟨j.id, j.user, j.width, j.est, j.prio, j.sub, 0, j.start, j.fin⟩ : Jb) = nextJ j 1 t) := Lib.hid (fun h => by rw [HTS.out] at h; cases h)
      clear hts hnx
      go_upto_region 5 with fail
      have HX7 : Hid (JobBox (W.setCell ⟨w.heap.size, 6, none⟩ (.int .i64 0)) w.heap.size (⟨j.id, j.user, j.width, j.est, j.prio, j.sub, 0, j.start, j.fin⟩ : Jb)) := (HX.out.set6 0)
      have HZ7 : Hid (JobBox (W.setCell ⟨w.heap.size, 6, none⟩ (.int .i64 0)) (w.heap.size + 1) noJb) := (HZ.out.set_other (p := ⟨w.heap.size, 6, none⟩) (by simp) (.int .i64 0))
      have HB7 : Hid (Below w.heap.size w (W.setCell ⟨w.heap.size, 6, none⟩ (.int .i64 0))) := (HB.out.setCell (p := ⟨w.heap.size, 6, none⟩) (Nat.le_refl _) (.int .i64 0))
      generalize (W.setCell ⟨w.heap.size, 6, none⟩ (.int .i64 0)) = w7 at *
      clear HX HZ HB y y0 y1 y2 y3 y4 y5 y6 y7 y8 y9 y10 y11 y12 y13 y14 y15 y16 y17 z z0 z1 z2 z3 z4 z5 z6 z7 z8 z9 z10 z11 z12 z13 z14 z15 z16 z17
      obtain ⟨v, v0, v1, v2, v3, v4, v5, v6, v7, v8, _, _, _, _, _, _, _, _, _⟩ := HX7.out
      obtain ⟨z, z0, z1, z2, z3, z4, z5, z6, z7, z8, z9, z10, z11, z12, z13, z14, z15, z16, z17⟩ := HZ7.out
      dsimp only at v0 v1 v2 v3 v4 v5 v6 v7 v8
      go_wp2_with fail
      change bodyPost _ _ _ Exit.ret _ (storedJ w7 (w.heap.size + 1) (⟨j.id, j.user, j.width, j.est, j.prio, j.sub, 0, j.start, j.fin⟩ : Jb))
      have HS := Lib.hid (HZ7.out.stored (⟨j.id, j.user, j.width, j.est, j.prio, j.sub, 0, j.start, j.fin⟩ : Jb))
      have HBS := Lib.hid (below_stored HB7.out (show w.heap.size ≤ w.heap.size + 1 by omega) (⟨j.id, j.user, j.width, j.est, j.prio, j.sub, 0, j.start, j.fin⟩ : Jb))
      generalize storedJ w7 (w.heap.size + 1) (⟨j.id, j.user, j.width, j.est, j.prio, j.sub, 0, j.start, j.fin⟩ : Jb) = w9 at *
      clear v v0 v1 v2 v3 v4 v5 v6 v7 v8 z z0 z1 z2 z3 z4 z5 z6 z7 z8 z9 z10 z11 z12 z13 z14 z15 z16 z17
      obtain ⟨z, z0, z1, z2, z3, z4, z5, z6, z7, z8, z9, z10, z11, z12, z13, z14, z15, z16, z17⟩ := HS.out
      dsimp only at z0 z1 z2 z3 z4 z5 z6 z7 z8
      exact bodyPost_ret (v := .tuple #[jobV (⟨j.id, j.user, j.width, j.est, j.prio, j.sub, 0, j.start, j.fin⟩ : Jb), .bool false]) (by simp [results, Tryd.results18, go_sem, z0, z1, z2, z3, z4, z5, z6, z7, z8, jobV, jobA]) rfl ⟨(⟨j.id, j.user, j.width, j.est, j.prio, j.sub, 0, j.start, j.fin⟩ : Jb), by rw [HTS.out]; rfl, HNX.out, HBS.out⟩
    · have HTS : Hid (turnState j 1 = false) := by rw [hts]; show (!(j.state == 1)) = _; rw [hd]; rfl
      have HNX : Hid (turnState j 1 = false → (⟨j.id, j.user, j.width, j.est, j.prio, j.sub, 0, j.start, j.fin⟩ : Jb) = nextJ j 1 t) := Lib.hid (fun _ => by rw [hnx (by simpa using hd)]; rfl)
      clear hts hnx
      go_upto_region 5 with fail
      have HX7 : Hid (JobBox (W.setCell ⟨w.heap.size, 6, none⟩ (.int .i64 0)) w.heap.size (⟨j.id, j.user, j.width, j.est, j.prio, j.sub, 0, j.start, j.fin⟩ : Jb)) := (HX.out.set6 0)
      have HZ7 : Hid (JobBox (W.setCell ⟨w.heap.size, 6, none⟩ (.int .i64 0)) (w.heap.size + 1) noJb) := (HZ.out.set_other (p := ⟨w.heap.size, 6, none⟩) (by simp) (.int .i64 0))
      have HB7 : Hid (Below w.heap.size w (W.setCell ⟨w.heap.size, 6, none⟩ (.int .i64 0))) := (HB.out.setCell (p := ⟨w.heap.size, 6, none⟩) (Nat.le_refl _) (.int .i64 0))
      generalize (W.setCell ⟨w.heap.size, 6, none⟩ (.int .i64 0)) = w7 at *
      clear HX HZ HB y y0 y1 y2 y3 y4 y5 y6 y7 y8 y9 y10 y11 y12 y13 y14 y15 y16 y17 z z0 z1 z2 z3 z4 z5 z6 z7 z8 z9 z10 z11 z12 z13 z14 z15 z16 z17
      obtain ⟨v, v0, v1, v2, v3, v4, v5, v6, v7, v8, _, _, _, _, _, _, _, _, _⟩ := HX7.out
      obtain ⟨z, z0, z1, z2, z3, z4, z5, z6, z7, z8, z9, z10, z11, z12, z13, z14, z15, z16, z17⟩ := HZ7.out
      dsimp only at v0 v1 v2 v3 v4 v5 v6 v7 v8
      go_wp2_with fail
      change bodyPost _ _ _ Exit.ret _ (storedJ w7 (w.heap.size + 1) (⟨j.id, j.user, j.width, j.est, j.prio, j.sub, 0, j.start, j.fin⟩ : Jb))
      have HS := Lib.hid (HZ7.out.stored (⟨j.id, j.user, j.width, j.est, j.prio, j.sub, 0, j.start, j.fin⟩ : Jb))
      have HBS := Lib.hid (below_stored HB7.out (show w.heap.size ≤ w.heap.size + 1 by omega) (⟨j.id, j.user, j.width, j.est, j.prio, j.sub, 0, j.start, j.fin⟩ : Jb))
      generalize storedJ w7 (w.heap.size + 1) (⟨j.id, j.user, j.width, j.est, j.prio, j.sub, 0, j.start, j.fin⟩ : Jb) = w9 at *
      clear v v0 v1 v2 v3 v4 v5 v6 v7 v8 z z0 z1 z2 z3 z4 z5 z6 z7 z8 z9 z10 z11 z12 z13 z14 z15 z16 z17
      obtain ⟨z, z0, z1, z2, z3, z4, z5, z6, z7, z8, z9, z10, z11, z12, z13, z14, z15, z16, z17⟩ := HS.out
      dsimp only at z0 z1 z2 z3 z4 z5 z6 z7 z8
      exact bodyPost_ret (v := .tuple #[jobV (⟨j.id, j.user, j.width, j.est, j.prio, j.sub, 0, j.start, j.fin⟩ : Jb), .bool true]) (by simp [results, Tryd.results18, go_sem, z0, z1, z2, z3, z4, z5, z6, z7, z8, jobV, jobA]) rfl ⟨(⟨j.id, j.user, j.width, j.est, j.prio, j.sub, 0, j.start, j.fin⟩ : Jb), by rw [HTS.out]; rfl, HNX.out, HBS.out⟩
  · cases hd : (j.state == 0)
    · have HTS : Hid (turnState j 2 = true) := by rw [hts]; show (!(j.state == 0)) = _; rw [hd]; rfl
      have HNX : Hid (turnState j 2 = false → (⟨j.id, j.user, j.width, j.est, j.prio, j.sub, 1, j.start, j.fin⟩ : Jb) = nextJ j 2 t) := Lib.hid (fun h => by rw [HTS.out] at h; cases h)
      clear hts hnx
      go_upto_region 8 with fail
      have HX7 : Hid (JobBox (W.setCell ⟨w.heap.size, 6, none⟩ (.int .i64 1)) w.heap.size (⟨j.id, j.user, j.width, j.est, j.prio, j.sub, 1, j.start, j.fin⟩ : Jb)) := (HX.out.set6 1)
      have HZ7 : Hid (JobBox (W.setCell ⟨w.heap.size, 6, none⟩ (.int .i64 1)) (w.heap.size + 1) noJb) := (HZ.out.set_other (p := ⟨w.heap.size, 6, none⟩) (by simp) (.int .i64 1))
      have HB7 : Hid (Below w.heap.size w (W.setCell ⟨w.heap.size, 6, none⟩ (.int .i64 1))) := (HB.out.setCell (p := ⟨w.heap.size, 6, none⟩) (Nat.le_refl _) (.int .i64 1))
      generalize (W.setCell ⟨w.heap.size, 6, none⟩ (.int .i64 1)) = w7 at *
      clear HX HZ HB y y0 y1 y2 y3 y4 y5 y6 y7 y8 y9 y10 y11 y12 y13 y14 y15 y16 y17 z z0 z1 z2 z3 z4 z5 z6 z7 z8 z9 z10 z11 z12 z13 z14 z15 z16 z17
      obtain ⟨v, v0, v1, v2, v3, v4, v5, v6, v7, v8, _, _, _, _, _, _, _, _, _⟩ := HX7.out
      obtain ⟨z, z0, z1, z2, z3, z4, z5, z6, z7, z8, z9, z10, z11, z12, z13, z14, z15, z16, z17⟩ := HZ7.out
      dsimp only at v0 v1 v2 v3 v4 v5 v6 v7 v8
      go_wp2_with fail
      change bodyPost _ _ _ Exit.ret _ (storedJ w7 (w.heap.size + 1) (⟨j.id, j.user, j.width, j.est, j.prio, j.sub, 1, j.start, j.fin⟩ : Jb))
      have HS := Lib.hid (HZ7.out.stored (⟨j.id, j.user, j.width, j.est, j.prio, j.sub, 1, j.start, j.fin⟩ : Jb))
      have HBS := Lib.hid (below_stored HB7.out (show w.heap.size ≤ w.heap.size + 1 by omega) (⟨j.id, j.user, j.width, j.est, j.prio, j.sub, 1, j.start, j.fin⟩ : Jb))
      generalize storedJ w7 (w.heap.size + 1) (⟨j.id, j.user, j.width, j.est, j.prio, j.sub, 1, j.start, j.fin⟩ : Jb) = w9 at *
      clear v v0 v1 v2 v3 v4 v5 v6 v7 v8 z z0 z1 z2 z3 z4 z5 z6 z7 z8 z9 z10 z11 z12 z13 z14 z15 z16 z17
      obtain ⟨z, z0, z1, z2, z3, z4, z5, z6, z7, z8, z9, z10, z11, z12, z13, z14, z15, z16, z17⟩ := HS.out
      dsimp only at z0 z1 z2 z3 z4 z5 z6 z7 z8
      exact bodyPost_ret (v := .tuple #[jobV (⟨j.id, j.user, j.width, j.est, j.prio, j.sub, 1, j.start, j.fin⟩ : Jb), .bool false]) (by simp [results, Tryd.results18, go_sem, z0, z1, z2, z3, z4, z5, z6, z7, z8, jobV, jobA]) rfl ⟨(⟨j.id, j.user, j.width, j.est, j.prio, j.sub, 1, j.start, j.fin⟩ : Jb), by rw [HTS.out]; rfl, HNX.out, HBS.out⟩
    · have HTS : Hid (turnState j 2 = false) := by rw [hts]; show (!(j.state == 0)) = _; rw [hd]; rfl
      have HNX : Hid (turnState j 2 = false → (⟨j.id, j.user, j.width, j.est, j.prio, j.sub, 1, j.start, j.fin⟩ : Jb) = nextJ j 2 t) := Lib.hid (fun _ => by rw [hnx (by simpa using hd)]; rfl)
      clear hts hnx
      go_upto_region 8 with fail
      have HX7 : Hid (JobBox (W.setCell ⟨w.heap.size, 6, none⟩ (.int .i64 1)) w.heap.size (⟨j.id, j.user, j.width, j.est, j.prio, j.sub, 1, j.start, j.fin⟩ : Jb)) := (HX.out.set6 1)
      have HZ7 : Hid (JobBox (W.setCell ⟨w.heap.size, 6, none⟩ (.int .i64 1)) (w.heap.size + 1) noJb) := (HZ.out.set_other (p := ⟨w.heap.size, 6, none⟩) (by simp) (.int .i64 1))
      have HB7 : Hid (Below w.heap.size w (W.setCell ⟨w.heap.size, 6, none⟩ (.int .i64 1))) := (HB.out.setCell (p := ⟨w.heap.size, 6, none⟩) (Nat.le_refl _) (.int .i64 1))
      generalize (W.setCell ⟨w.heap.size, 6, none⟩ (.int .i64 1)) = w7 at *
      clear HX HZ HB y y0 y1 y2 y3 y4 y5 y6 y7 y8 y9 y10 y11 y12 y13 y14 y15 y16 y17 z z0 z1 z2 z3 z4 z5 z6 z7 z8 z9 z10 z11 z12 z13 z14 z15 z16 z17
      obtain ⟨v, v0, v1, v2, v3, v4, v5, v6, v7, v8, _, _, _, _, _, _, _, _, _⟩ := HX7.out
      obtain ⟨z, z0, z1, z2, z3, z4, z5, z6, z7, z8, z9, z10, z11, z12, z13, z14, z15, z16, z17⟩ := HZ7.out
      dsimp only at v0 v1 v2 v3 v4 v5 v6 v7 v8
      go_wp2_with fail
      change bodyPost _ _ _ Exit.ret _ (storedJ w7 (w.heap.size + 1) (⟨j.id, j.user, j.width, j.est, j.prio, j.sub, 1, j.start, j.fin⟩ : Jb))
      have HS := Lib.hid (HZ7.out.stored (⟨j.id, j.user, j.width, j.est, j.prio, j.sub, 1, j.start, j.fin⟩ : Jb))
      have HBS := Lib.hid (below_stored HB7.out (show w.heap.size ≤ w.heap.size + 1 by omega) (⟨j.id, j.user, j.width, j.est, j.prio, j.sub, 1, j.start, j.fin⟩ : Jb))
      generalize storedJ w7 (w.heap.size + 1) (⟨j.id, j.user, j.width, j.est, j.prio, j.sub, 1, j.start, j.fin⟩ : Jb) = w9 at *
      clear v v0 v1 v2 v3 v4 v5 v6 v7 v8 z z0 z1 z2 z3 z4 z5 z6 z7 z8 z9 z10 z11 z12 z13 z14 z15 z16 z17
      obtain ⟨z, z0, z1, z2, z3, z4, z5, z6, z7, z8, z9, z10, z11, z12, z13, z14, z15, z16, z17⟩ := HS.out
      dsimp only at z0 z1 z2 z3 z4 z5 z6 z7 z8
      exact bodyPost_ret (v := .tuple #[jobV (⟨j.id, j.user, j.width, j.est, j.prio, j.sub, 1, j.start, j.fin⟩ : Jb), .bool true]) (by simp [results, Tryd.results18, go_sem, z0, z1, z2, z3, z4, z5, z6, z7, z8, jobV, jobA]) rfl ⟨(⟨j.id, j.user, j.width, j.est, j.prio, j.sub, 1, j.start, j.fin⟩ : Jb), by rw [HTS.out]; rfl, HNX.out, HBS.out⟩
  · cases hd : (j.state == 1)
    · have HTS : Hid (turnState j 3 = true) := by rw [hts]; show (!(j.state == 1)) = _; rw [hd]; rfl
      have HNX : Hid (turnState j 3 = false → (⟨j.id, j.user, j.width, j.est, j.prio, j.sub, 2, t, j.fin⟩ : Jb) = nextJ j 3 t) := Lib.hid (fun h => by rw [HTS.out] at h; cases h)
      clear hts hnx
      go_upto_region 11 with fail
      have HX7 : Hid (JobBox ((W.setCell ⟨w.heap.size, 6, none⟩ (.int .i64 2)).setCell ⟨w.heap.size, 7, none⟩ (.int .i64 t)) w.heap.size (⟨j.id, j.user, j.width, j.est, j.prio, j.sub, 2, t, j.fin⟩ : Jb)) := ((HX.out.set6 2).set7 t)
      have HZ7 : Hid (JobBox ((W.setCell ⟨w.heap.size, 6, none⟩ (.int .i64 2)).setCell ⟨w.heap.size, 7, none⟩ (.int .i64 t)) (w.heap.size + 1) noJb) := ((HZ.out.set_other (p := ⟨w.heap.size, 6, none⟩) (by simp) (.int .i64 2)).set_other (p := ⟨w.heap.size, 7, none⟩) (by simp) (.int .i64 t))
      have HB7 : Hid (Below w.heap.size w ((W.setCell ⟨w.heap.size, 6, none⟩ (.int .i64 2)).setCell ⟨w.heap.size, 7, none⟩ (.int .i64 t))) := ((HB.out.setCell (p := ⟨w.heap.size, 6, none⟩) (Nat.le_refl _) (.int .i64 2)).setCell (p := ⟨w.heap.size, 7, none⟩) (Nat.le_refl _) (.int .i64 t))
      generalize ((W.setCell ⟨w.heap.size, 6, none⟩ (.int .i64 2)).setCell ⟨w.heap.size, 7, none⟩ (.int .i64 t)) = w7 at *
      clear HX HZ HB y y0 y1 y2 y3 y4 y5 y6 y7 y8 y9 y10 y11 y12 y13 y14 y15 y16 y17 z z0 z1 z2 z3 z4 z5 z6 z7 z8 z9 z10 z11 z12 z13 z14 z15 z16 z17
      obtain ⟨v, v0, v1, v2, v3, v4, v5, v6, v7, v8, _, _, _, _, _, _, _, _, _⟩ := HX7.out
      obtain ⟨z, z0, z1, z2, z3, z4, z5, z6, z7, z8, z9, z10, z11, z12, z13, z14, z15, z16, z17⟩ := HZ7.out
      dsimp only at v0 v1 v2 v3 v4 v5 v6 v7 v8
      go_wp2_with fail
      change bodyPost _ _ _ Exit.ret _ (storedJ w7 (w.heap.size + 1) (⟨j.id, j.user, j.width, j.est, j.prio, j.sub, 2, t, j.fin⟩ : Jb))
      have HS := Lib.hid (HZ7.out.stored (⟨j.id, j.user, j.width, j.est, j.prio, j.sub, 2, t, j.fin⟩ : Jb))
      have HBS := Lib.hid (below_stored HB7.out (show w.heap.size ≤ w.heap.size + 1 by omega) (⟨j.id, j.user, j.width, j.est, j.prio, j.sub, 2, t, j.fin⟩ : Jb))
      generalize storedJ w7 (w.heap.size + 1) (⟨j.id, j.user, j.width, j.est, j.prio, j.sub, 2, t, j.fin⟩ : Jb) = w9 at *
      clear v v0 v1 v2 v3 v4 v5 v6 v7 v8 z z0 z1 z2 z3 z4 z5 z6 z7 z8 z9 z10 z11 z12 z13 z14 z15 z16 z17
      obtain ⟨z, z0, z1, z2, z3, z4, z5, z6, z7, z8, z9, z10, z11, z12, z13, z14, z15, z16, z17⟩ := HS.out
      dsimp only at z0 z1 z2 z3 z4 z5 z6 z7 z8
      exact bodyPost_ret (v := .tuple #[jobV (⟨j.id, j.user, j.width, j.est, j.prio, j.sub, 2, t, j.fin⟩ : Jb), .bool false]) (by simp [results, Tryd.results18, go_sem, z0, z1, z2, z3, z4, z5, z6, z7, z8, jobV, jobA]) rfl ⟨(⟨j.id, j.user, j.width, j.est, j.prio, j.sub, 2, t, j.fin⟩ : Jb), by rw [HTS.out]; rfl, HNX.out, HBS.out⟩
    · have HTS : Hid (turnState j 3 = false) := by rw [hts]; show (!(j.state == 1)) = _; rw [hd]; rfl
      have HNX : Hid (turnState j 3 = false → (⟨j.id, j.user, j.width, j.est, j.prio, j.sub, 2, t, j.fin⟩ : Jb) = nextJ j 3 t) := Lib.hid (fun _ => by rw [hnx (by simpa using hd)]; rfl)
      clear hts hnx
      go_upto_region 11 with fail
      have HX7 : Hid (JobBox ((W.setCell ⟨w.heap.size, 6, none⟩ (.int .i64 2)).setCell ⟨w.heap.size, 7, none⟩ (.int .i64 t)) w.heap.size (⟨j.id, j.user, j.width, j.est, j.prio, j.sub, 2, t, j.fin⟩ : Jb)) := ((HX.out.set6 2).set7 t)
      have HZ7 : Hid (JobBox ((W.setCell ⟨w.heap.size, 6, none⟩ (.int .i64 2)).setCell ⟨w.heap.size, 7, none⟩ (.int .i64 t)) (w.heap.size + 1) noJb) := ((HZ.out.set_other (p := ⟨w.heap.size, 6, none⟩) (by simp) (.int .i64 2)).set_other (p := ⟨w.heap.size, 7, none⟩) (by simp) (.int .i64 t))
      have HB7 : Hid (Below w.heap.size w ((W.setCell ⟨w.heap.size, 6, none⟩ (.int .i64 2)).setCell ⟨w.heap.size, 7, none⟩ (.int .i64 t))) := ((HB.out.setCell (p := ⟨w.heap.size, 6, none⟩) (Nat.le_refl _) (.int .i64 2)).setCell (p := ⟨w.heap.size, 7, none⟩) (Nat.le_refl _) (.int .i64 t))
      generalize ((W.setCell ⟨w.heap.size, 6, none⟩ (.int .i64 2)).setCell ⟨w.heap.size, 7, none⟩ (.int .i64 t)) = w7 at *
      clear HX HZ HB y y0 y1 y2 y3 y4 y5 y6 y7 y8 y9 y10 y11 y12 y13 y14 y15 y16 y17 z z0 z1 z2 z3 z4 z5 z6 z7 z8 z9 z10 z11 z12 z13 z14 z15 z16 z17
      obtain ⟨v, v0, v1, v2, v3, v4, v5, v6, v7, v8, _, _, _, _, _, _, _, _, _⟩ := HX7.out
      obtain ⟨z, z0, z1, z2, z3, z4, z5, z6, z7, z8, z9, z10, z11, z12, z13, z14, z15, z16, z17⟩ := HZ7.out
      dsimp only at v0 v1 v2 v3 v4 v5 v6 v7 v8
      go_wp2_with fail
      change bodyPost _ _ _ Exit.ret _ (storedJ w7 (w.heap.size + 1) (⟨j.id, j.user, j.width, j.est, j.prio, j.sub, 2, t, j.fin⟩ : Jb))
      have HS := Lib.hid (HZ7.out.stored (⟨j.id, j.user, j.width, j.est, j.prio, j.sub, 2, t, j.fin⟩ : Jb))
      have HBS := Lib.hid (below_stored HB7.out (show w.heap.size ≤ w.heap.size + 1 by omega) (⟨j.id, j.user, j.width, j.est, j.prio, j.sub, 2, t, j.fin⟩ : Jb))
      generalize storedJ w7 (w.heap.size + 1) (⟨j.id, j.user, j.width, j.est, j.prio, j.sub, 2, t, j.fin⟩ : Jb) = w9 at *
      clear v v0 v1 v2 v3 v4 v5 v6 v7 v8 z z0 z1 z2 z3 z4 z5 z6 z7 z8 z9 z10 z11 z12 z13 z14 z15 z16 z17
      obtain ⟨z, z0, z1, z2, z3, z4, z5, z6, z7, z8, z9, z10, z11, z12, z13, z14, z15, z16, z17⟩ := HS.out
      dsimp only at z0 z1 z2 z3 z4 z5 z6 z7 z8
      exact bodyPost_ret (v := .tuple #[jobV (⟨j.id, j.user, j.width, j.est, j.prio, j.sub, 2, t, j.fin⟩ : Jb), .bool true]) (by simp [results, Tryd.results18, go_sem, z0, z1, z2, z3, z4, z5, z6, z7, z8, jobV, jobA]) rfl ⟨(⟨j.id, j.user, j.width, j.est, j.prio, j.sub, 2, t, j.fin⟩ : Jb), by rw [HTS.out]; rfl, HNX.out, HBS.out⟩
  · cases hd : (j.state == 2)
    · have HTS : Hid (turnState j 4 = true) := by rw [hts]; show (!(j.state == 2)) = _; rw [hd]; rfl
      have HNX : Hid (turnState j 4 = false → (⟨j.id, j.user, j.width, j.est, j.prio, j.sub, 3, j.start, t⟩ : Jb) = nextJ j 4 t) := Lib.hid (fun h => by rw [HTS.out] at h; cases h)
      clear hts hnx
      go_upto_region 14 with fail
      have HX7 : Hid (JobBox ((W.setCell ⟨w.heap.size, 6, none⟩ (.int .i64 3)).setCell ⟨w.heap.size, 8, none⟩ (.int .i64 t)) w.heap.size (⟨j.id, j.user, j.width, j.est, j.prio, j.sub, 3, j.start, t⟩ : Jb)) := ((HX.out.set6 3).set8 t)
      have HZ7 : Hid (JobBox ((W.setCell ⟨w.heap.size, 6, none⟩ (.int .i64 3)).setCell ⟨w.heap.size, 8, none⟩ (.int .i64 t)) (w.heap.size + 1) noJb) := ((HZ.out.set_other (p := ⟨w.heap.size, 6, none⟩) (by simp) (.int .i64 3)).set_other (p := ⟨w.heap.size, 8, none⟩) (by simp) (.int .i64 t))
      have HB7 : Hid (Below w.heap.size w ((W.setCell ⟨w.heap.size, 6, none⟩ (.int .i64 3)).setCell ⟨w.heap.size, 8, none⟩ (.int .i64 t))) := ((HB.out.setCell (p := ⟨w.heap.size, 6, none⟩) (Nat.le_refl _) (.int .i64 3)).setCell (p := ⟨w.heap.size, 8, none⟩) (Nat.le_refl _) (.int .i64 t))
      generalize ((W.setCell ⟨w.heap.size, 6, none⟩ (.int .i64 3)).setCell ⟨w.heap.size, 8, none⟩ (.int .i64 t)) = w7 at *
      clear HX HZ HB y y0 y1 y2 y3 y4 y5 y6 y7 y8 y9 y10 y11 y12 y13 y14 y15 y16 y17 z z0 z1 z2 z3 z4 z5 z6 z7 z8 z9 z10 z11 z12 z13 z14 z15 z16 z17
      obtain ⟨v, v0, v1, v2, v3, v4, v5, v6, v7, v8, _, _, _, _, _, _, _, _, _⟩ := HX7.out
      obtain ⟨z, z0, z1, z2, z3, z4, z5, z6, z7, z8, z9, z10, z11, z12, z13, z14, z15, z16, z17⟩ := HZ7.out
      dsimp only at v0 v1 v2 v3 v4 v5 v6 v7 v8
      go_wp2_with fail
      change bodyPost _ _ _ Exit.ret _ (storedJ w7 (w.heap.size + 1) (⟨j.id, j.user, j.width, j.est, j.prio, j.sub, 3, j.start, t⟩ : Jb))
      have HS := Lib.hid (HZ7.out.stored (⟨j.id, j.user, j.width, j.est, j.prio, j.sub, 3, j.start, t⟩ : Jb))
      have HBS := Lib.hid (below_stored HB7.out (show w.heap.size ≤ w.heap.size + 1 by omega) (⟨j.id, j.user, j.width, j.est, j.prio, j.sub, 3, j.start, t⟩ : Jb))
      generalize storedJ w7 (w.heap.size + 1) (⟨j.id, j.user, j.width, j.est, j.prio, j.sub, 3, j.start, t⟩ : Jb) = w9 at *
      clear v v0 v1 v2 v3 v4 v5 v6 v7 v8 z z0 z1 z2 z3 z4 z5 z6 z7 z8 z9 z10 z11 z12 z13 z14 z15 z16 z17
      obtain ⟨z, z0, z1, z2, z3, z4, z5, z6, z7, z8, z9, z10, z11, z12, z13, z14, z15, z16, z17⟩ := HS.out
      dsimp only at z0 z1 z2 z3 z4 z5 z6 z7 z8
      exact bodyPost_ret (v := .tuple #[jobV (⟨j.id, j.user, j.width, j.est, j.prio, j.sub, 3, j.start, t⟩ : Jb), .bool false]) (by simp [results, Tryd.results18, go_sem, z0, z1, z2, z3, z4, z5, z6, z7, z8, jobV, jobA]) rfl ⟨(⟨j.id, j.user, j.width, j.est, j.prio, j.sub, 3, j.start, t⟩ : Jb), by rw [HTS.out]; rfl, HNX.out, HBS.out⟩
    · have HTS : Hid (turnState j 4 = false) := by rw [hts]; show (!(j.state == 2)) = _; rw [hd]; rfl
      have HNX : Hid (turnState j 4 = false → (⟨j.id, j.user, j.width, j.est, j.prio, j.sub, 3, j.start, t⟩ : Jb) = nextJ j 4 t) := Lib.hid (fun _ => by rw [hnx (by simpa using hd)]; rfl)
      clear hts hnx
      go_upto_region 14 with fail
      have HX7 : Hid (JobBox ((W.setCell ⟨w.heap.size, 6, none⟩ (.int .i64 3)).setCell ⟨w.heap.size, 8, none⟩ (.int .i64 t)) w.heap.size (⟨j.id, j.user, j.width, j.est, j.prio, j.sub, 3, j.start, t⟩ : Jb)) := ((HX.out.set6 3).set8 t)
      have HZ7 : Hid (JobBox ((W.setCell ⟨w.heap.size, 6, none⟩ (.int .i64 3)).setCell ⟨w.heap.size, 8, none⟩ (.int .i64 t)) (w.heap.size + 1) noJb) := ((HZ.out.set_other (p := ⟨w.heap.size, 6, none⟩) (by simp) (.int .i64 3)).set_other (p := ⟨w.heap.size, 8, none⟩) (by simp) (.int .i64 t))
      have HB7 : Hid (Below w.heap.size w ((W.setCell ⟨w.heap.size, 6, none⟩ (.int .i64 3)).setCell ⟨w.heap.size, 8, none⟩ (.int .i64 t))) := ((HB.out.setCell (p := ⟨w.heap.size, 6, none⟩) (Nat.le_refl _) (.int .i64 3)).setCell (p := ⟨w.heap.size, 8, none⟩) (Nat.le_refl _) (.int .i64 t))
      generalize ((W.setCell ⟨w.heap.size, 6, none⟩ (.int .i64 3)).setCell ⟨w.heap.size, 8, none⟩ (.int .i64 t)) = w7 at *
      clear HX HZ HB y y0 y1 y2 y3 y4 y5 y6 y7 y8 y9 y10 y11 y12 y13 y14 y15 y16 y17 z z0 z1 z2 z3 z4 z5 z6 z7 z8 z9 z10 z11 z12 z13 z14 z15 z16 z17
      obtain ⟨v, v0, v1, v2, v3, v4, v5, v6, v7, v8, _, _, _, _, _, _, _, _, _⟩ := HX7.out
      obtain ⟨z, z0, z1, z2, z3, z4, z5, z6, z7, z8, z9, z10, z11, z12, z13, z14, z15, z16, z17⟩ := HZ7.out
      dsimp only at v0 v1 v2 v3 v4 v5 v6 v7 v8
      go_wp2_with fail
      change bodyPost _ _ _ Exit.ret _ (storedJ w7 (w.heap.size + 1) (⟨j.id, j.user, j.width, j.est, j.prio, j.sub, 3, j.start, t⟩ : Jb))
      have HS := Lib.hid (HZ7.out.stored (⟨j.id, j.user, j.width, j.est, j.prio, j.sub, 3, j.start, t⟩ : Jb))
      have HBS := Lib.hid (below_stored HB7.out (show w.heap.size ≤ w.heap.size + 1 by omega) (⟨j.id, j.user, j.width, j.est, j.prio, j.sub, 3, j.start, t⟩ : Jb))
      generalize storedJ w7 (w.heap.size + 1) (⟨j.id, j.user, j.width, j.est, j.prio, j.sub, 3, j.start, t⟩ : Jb) = w9 at *
      clear v v0 v1 v2 v3 v4 v5 v6 v7 v8 z z0 z1 z2 z3 z4 z5 z6 z7 z8 z9 z10 z11 z12 z13 z14 z15 z16 z17
      obtain ⟨z, z0, z1, z2, z3, z4, z5, z6, z7, z8, z9, z10, z11, z12, z13, z14, z15, z16, z17⟩ := HS.out
      dsimp only at z0 z1 z2 z3 z4 z5 z6 z7 z8
      exact bodyPost_ret (v := .tuple #[jobV (⟨j.id, j.user, j.width, j.est, j.prio, j.sub, 3, j.start, t⟩ : Jb), .bool true]) (by simp [results, Tryd.results18, go_sem, z0, z1, z2, z3, z4, z5, z6, z7, z8, jobV, jobA]) rfl ⟨(⟨j.id, j.user, j.width, j.est, j.prio, j.sub, 3, j.start, t⟩ : Jb), by rw [HTS.out]; rfl, HNX.out, HBS.out⟩
  · cases hd : (j.state == 2)
    · have HTS : Hid (turnState j 5 = true) := by rw [hts]; show (!(j.state == 2)) = _; rw [hd]; rfl
      have HNX : Hid (turnState j 5 = false → (⟨j.id, j.user, j.width, j.est, j.prio, j.sub, 4, j.start, t⟩ : Jb) = nextJ j 5 t) := Lib.hid (fun h => by rw [HTS.out] at h; cases h)
      clear hts hnx
      go_upto_region 17 with fail
      have HX7 : Hid (JobBox ((W.setCell ⟨w.heap.size, 6, none⟩ (.int .i64 4)).setCell ⟨w.heap.size, 8, none⟩ (.int .i64 t)) w.heap.size (⟨j.id, j.user, j.width, j.est, j.prio, j.sub, 4, j.start, t⟩ : Jb)) := ((HX.out.set6 4).set8 t)
      have HZ7 : Hid (JobBox ((W.setCell ⟨w.heap.size, 6, none⟩ (.int .i64 4)).setCell ⟨w.heap.size, 8, none⟩ (.int .i64 t)) (w.heap.size + 1) noJb) := ((HZ.out.set_other (p := ⟨w.heap.size, 6, none⟩) (by simp) (.int .i64 4)).set_other (p := ⟨w.heap.size, 8, none⟩) (by simp) (.int .i64 t))
      have HB7 : Hid (Below w.heap.size w ((W.setCell ⟨w.heap.size, 6, none⟩ (.int .i64 4)).setCell ⟨w.heap.size, 8, none⟩ (.int .i64 t))) := ((HB.out.setCell (p := ⟨w.heap.size, 6, none⟩) (Nat.le_refl _) (.int .i64 4)).setCell (p := ⟨w.heap.size, 8, none⟩) (Nat.le_refl _) (.int .i64 t))
      generalize ((W.setCell ⟨w.heap.size, 6, none⟩ (.int .i64 4)).setCell ⟨w.heap.size, 8, none⟩ (.int .i64 t)) = w7 at *
      clear HX HZ HB y y0 y1 y2 y3 y4 y5 y6 y7 y8 y9 y10 y11 y12 y13 y14 y15 y16 y17 z z0 z1 z2 z3 z4 z5 z6 z7 z8 z9 z10 z11 z12 z13 z14 z15 z16 z17
      obtain ⟨v, v0, v1, v2, v3, v4, v5, v6, v7, v8, _, _, _, _, _, _, _, _, _⟩ := HX7.out
      obtain ⟨z, z0, z1, z2, z3, z4, z5, z6, z7, z8, z9, z10, z11, z12, z13, z14, z15, z16, z17⟩ := HZ7.out
      dsimp only at v0 v1 v2 v3 v4 v5 v6 v7 v8
      go_wp2_with fail
      change bodyPost _ _ _ Exit.ret _ (storedJ w7 (w.heap.size + 1) (⟨j.id, j.user, j.width, j.est, j.prio, j.sub, 4, j.start, t⟩ : Jb))
      have HS := Lib.hid (HZ7.out.stored (⟨j.id, j.user, j.width, j.est, j.prio, j.sub, 4, j.start, t⟩ : Jb))
      have HBS := Lib.hid (below_stored HB7.out (show w.heap.size ≤ w.heap.size + 1 by omega) (⟨j.id, j.user, j.width, j.est, j.prio, j.sub, 4, j.start, t⟩ : Jb))
      generalize storedJ w7 (w.heap.size + 1) (⟨j.id, j.user, j.width, j.est, j.prio, j.sub, 4, j.start, t⟩ : Jb) = w9 at *
      clear v v0 v1 v2 v3 v4 v5 v6 v7 v8 z z0 z1 z2 z3 z4 z5 z6 z7 z8 z9 z10 z11 z12 z13 z14 z15 z16 z17
      obtain ⟨z, z0, z1, z2, z3, z4, z5, z6, z7, z8, z9, z10, z11, z12, z13, z14, z15, z16, z17⟩ := HS.out
      dsimp only at z0 z1 z2 z3 z4 z5 z6 z7 z8
      exact bodyPost_ret (v := .tuple #[jobV (⟨j.id, j.user, j.width, j.est, j.prio, j.sub, 4, j.start, t⟩ : Jb), .bool false]) (by simp [results, Tryd.results18, go_sem, z0, z1, z2, z3, z4, z5, z6, z7, z8, jobV, jobA]) rfl ⟨(⟨j.id, j.user, j.width, j.est, j.prio, j.sub, 4, j.start, t⟩ : Jb), by rw [HTS.out]; rfl, HNX.out, HBS.out⟩
    · have HTS : Hid (turnState j 5 = false) := by rw [hts]; show (!(j.state == 2)) = _; rw [hd]; rfl
      have HNX : Hid (turnState j 5 = false → (⟨j.id, j.user, j.width, j.est, j.prio, j.sub, 4, j.start, t⟩ : Jb) = nextJ j 5 t) := Lib.hid (fun _ => by rw [hnx (by simpa using hd)]; rfl)
      clear hts hnx
      go_upto_region 17 with fail
      have HX7 : Hid (JobBox ((W.setCell ⟨w.heap.size, 6, none⟩ (.int .i64 4)).setCell ⟨w.heap.size, 8, none⟩ (.int .i64 t)) w.heap.size (⟨j.id, j.user, j.width, j.est, j.prio, j.sub, 4, j.start, t⟩ : Jb)) := ((HX.out.set6 4).set8 t)
      have HZ7 : Hid (JobBox ((W.setCell ⟨w.heap.size, 6, none⟩ (.int .i64 4)).setCell ⟨w.heap.size, 8, none⟩ (.int .i64 t)) (w.heap.size + 1) noJb) := ((HZ.out.set_other (p := ⟨w.heap.size, 6, none⟩) (by simp) (.int .i64 4)).set_other (p := ⟨w.heap.size, 8, none⟩) (by simp) (.int .i64 t))
      have HB7 : Hid (Below w.heap.size w ((W.setCell ⟨w.heap.size, 6, none⟩ (.int .i64 4)).setCell ⟨w.heap.size, 8, none⟩ (.int .i64 t))) := ((HB.out.setCell (p := ⟨w.heap.size, 6, none⟩) (Nat.le_refl _) (.int .i64 4)).setCell (p := ⟨w.heap.size, 8, none⟩) (Nat.le_refl _) (.int .i64 t))
      generalize ((W.setCell ⟨w.heap.size, 6, none⟩ (.int .i64 4)).setCell ⟨w.heap.size, 8, none⟩ (.int .i64 t)) = w7 at *
      clear HX HZ HB y y0 y1 y2 y3 y4 y5 y6 y7 y8 y9 y10 y11 y12 y13 y14 y15 y16 y17 z z0 z1 z2 z3 z4 z5 z6 z7 z8 z9 z10 z11 z12 z13 z14 z15 z16 z17
      obtain ⟨v, v0, v1, v2, v3, v4, v5, v6, v7, v8, _, _, _, _, _, _, _, _, _⟩ := HX7.out
      obtain ⟨z, z0, z1, z2, z3, z4, z5, z6, z7, z8, z9, z10, z11, z12, z13, z14, z15, z16, z17⟩ := HZ7.out
      dsimp only at v0 v1 v2 v3 v4 v5 v6 v7 v8
      go_wp2_with fail
      change bodyPost _ _ _ Exit.ret _ (storedJ w7 (w.heap.size + 1) (⟨j.id, j.user, j.width, j.est, j.prio, j.sub, 4, j.start, t⟩ : Jb))
      have HS := Lib.hid (HZ7.out.stored (⟨j.id, j.user, j.width, j.est, j.prio, j.sub, 4, j.start, t⟩ : Jb))
      have HBS := Lib.hid (below_stored HB7.out (show w.heap.size ≤ w.heap.size + 1 by omega) (⟨j.id, j.user, j.width, j.est, j.prio, j.sub, 4, j.start, t⟩ : Jb))
      generalize storedJ w7 (w.heap.size + 1) (⟨j.id, j.user, j.width, j.est, j.prio, j.sub, 4, j.start, t⟩ : Jb) = w9 at *
      clear v v0 v1 v2 v3 v4 v5 v6 v7 v8 z z0 z1 z2 z3 z4 z5 z6 z7 z8 z9 z10 z11 z12 z13 z14 z15 z16 z17
      obtain ⟨z, z0, z1, z2, z3, z4, z5, z6, z7, z8, z9, z10, z11, z12, z13, z14, z15, z16, z17⟩ := HS.out
      dsimp only at z0 z1 z2 z3 z4 z5 z6 z7 z8
      exact bodyPost_ret (v := .tuple #[jobV (⟨j.id, j.user, j.width, j.est, j.prio, j.sub, 4, j.start, t⟩ : Jb), .bool true]) (by simp [results, Tryd.results18, go_sem, z0, z1, z2, z3, z4, z5, z6, z7, z8, jobV, jobA]) rfl ⟨(⟨j.id, j.user, j.width, j.est, j.prio, j.sub, 4, j.start, t⟩ : Jb), by rw [HTS.out]; rfl, HNX.out, HBS.out⟩
  · exact absurd rfl h6
end Go.Proofs.YtclpbmhmfddifaaDoor.JobWalk
