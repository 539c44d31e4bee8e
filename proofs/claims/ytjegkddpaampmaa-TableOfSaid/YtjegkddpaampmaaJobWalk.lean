/-
  The walks of layer 7's code: after. The walks of layer 7's code: Ran, Word. The walks of layer 7's code: Turn; what its functions answer, as the statements' texts want it.
-/
import Derived.Test.YtjegkddpaampmaaJobWalkB
import Derived.StillTailTactics
namespace Go.Proofs.Ytjegkddpaampmaa.JobWalk
open Go.RowKit Go.Proofs.Ytjegkddpaampmaa.JobPlain Go.Proofs.Ytjegkddpaampmaa.Mem Go.Proofs.Ytjegkddpaampmaa.JobMem Go.Proofs.Ytjegkddpaampmaa.JobRef
def AfterIs (j : Jb) (ev t : Int) (w : World) (e : Ending) (w' : World) : Prop := ∃ x, e = .returned (.tuple #[jobV x, .bool (!turnState j ev)]) ∧ (turnState j ev = false → x = nextJ j ev t) ∧ Below w.heap.size w w'
theorem live_not {s : Int} (h : 0 ≤ s) : decide (2 < s) = !liveSt s := by
  unfold liveSt
  rw [Bool.eq_iff_iff]
  simp only [decide_eq_true_eq, Bool.not_eq_true', Bool.or_eq_false_iff, beq_eq_false_iff_ne]
  omega
theorem isLive_still (s : Int) (w : World) : Calls Try.prog 52 #[.int .i64 s] w (fun e w2 => e = .returned (.bool (liveSt s)) ∧ w2 = w) :=
  (isLive_any s w).mono fun e w2 h => ⟨h.1, Eq.symm h.2⟩
theorem six_way {j : Jb} {t : Int} (h : (∃ f s : Int, ∃ b : Bool, (((6 : Int) = 1 ∧ f = 1 ∧ s = 0 ∧ b = false) ∨ ((6 : Int) = 2 ∧ f = 0 ∧ s = 1 ∧ b = false) ∨ ((6 : Int) = 3 ∧ f = 1 ∧ s = 2 ∧ b = true) ∨ ((6 : Int) = 4 ∧ f = 2 ∧ s = 3 ∧ b = false) ∨ ((6 : Int) = 5 ∧ f = 2 ∧ s = 4 ∧ b = false)) ∧
      turnState j 6 = (j.state != f) ∧ (j.state = f → nextJ j 6 t = ⟨j.id, j.user, j.width, j.est, j.prio, j.sub, s, if b then t else j.start, if f = 2 then t else j.fin⟩)) ∨
    ((6 : Int) = 6 ∧ turnState j 6 = decide (2 < j.state) ∧ nextJ j 6 t = ⟨j.id, j.user, j.width, j.est, j.prio, j.sub, 5, j.start, if j.state = 2 then t else j.fin⟩)) :
    turnState j 6 = decide (2 < j.state) ∧ nextJ j 6 t = ⟨j.id, j.user, j.width, j.est, j.prio, j.sub, 5, j.start, if j.state = 2 then t else j.fin⟩ := by
  rcases h with ⟨f, s, b, h, _⟩ | ⟨_, h⟩
  · omega
  · exact h
set_option maxRecDepth 100000 in
set_option maxHeartbeats 6400000 in
theorem after6 (j : Jb) (t : Int) (w : World) (h0 : 0 ≤ j.state) : Calls Try.prog 44 #[jobV j, .int .i64 6, .int .i64 t] w (AfterIs j 6 t w) := by
  have HH := Lib.hid (two_jobs w j 28)
  have hev := ev_ways j 6 t rfl rfl
  unfold jobV jobA
  go_enter Try.func44, Try.ntmps44
  go_upto_region 1 with fail
  generalize ((w.alloc (.cells #[.int .i64 j.id, .string j.user, .int .i64 j.width, .int .i64 j.est, .int .i64 j.prio, .int .i64 j.sub, .int .i64 j.state, .int .i64 j.start, .int .i64 j.fin] 28)).alloc (.cells #[.int .i64 0, .string ⟨#[]⟩, .int .i64 0, .int .i64 0, .int .i64 0, .int .i64 0, .int .i64 0, .int .i64 0, .int .i64 0] 28)) = W at *
  have HX := Lib.hid HH.out.1
  have HZ := Lib.hid HH.out.2.1
  have HB := Lib.hid HH.out.2.2
  obtain ⟨y, y0, y1, y2, y3, y4, y5, y6, y7, y8, y9, y10, y11, y12, y13, y14, y15, y16, y17⟩ := HX.out
  obtain ⟨z, z0, z1, z2, z3, z4, z5, z6, z7, z8, z9, z10, z11, z12, z13, z14, z15, z16, z17⟩ := HZ.out
  clear HH
  have hev2 := six_way hev
  clear hev
  obtain ⟨hts, hnx⟩ := hev2
  have HTS : Hid (turnState j 6 = !liveSt j.state) := Lib.hid (hts.trans (live_not h0))
  clear hts
  cases hd : (j.state == 2)
  · have HNX : Hid (turnState j 6 = false → (⟨j.id, j.user, j.width, j.est, j.prio, j.sub, 5, j.start, j.fin⟩ : Jb) = nextJ j 6 t) := Lib.hid (fun _ => by rw [hnx, if_neg (by simpa using hd)])
    clear hnx
    go_upto_region 22 with fail
    have HX7 : Hid (JobBox (W.setCell ⟨w.heap.size, 6, none⟩ (.int .i64 5)) w.heap.size (⟨j.id, j.user, j.width, j.est, j.prio, j.sub, 5, j.start, j.fin⟩ : Jb)) := (HX.out.set6 5)
    have HZ7 : Hid (JobBox (W.setCell ⟨w.heap.size, 6, none⟩ (.int .i64 5)) (w.heap.size + 1) noJb) := (HZ.out.set_other (p := ⟨w.heap.size, 6, none⟩) (by simp) (.int .i64 5))
    have HB7 : Hid (Below w.heap.size w (W.setCell ⟨w.heap.size, 6, none⟩ (.int .i64 5))) := (HB.out.setCell (p := ⟨w.heap.size, 6, none⟩) (Nat.le_refl _) (.int .i64 5))
    generalize (W.setCell ⟨w.heap.size, 6, none⟩ (.int .i64 5)) = w7 at *
    clear HX HZ HB y y0 y1 y2 y3 y4 y5 y6 y7 y8 y9 y10 y11 y12 y13 y14 y15 y16 y17 z z0 z1 z2 z3 z4 z5 z6 z7 z8 z9 z10 z11 z12 z13 z14 z15 z16 z17
    obtain ⟨v, v0, v1, v2, v3, v4, v5, v6, v7, v8, _, _, _, _, _, _, _, _, _⟩ := HX7.out
    obtain ⟨z, z0, z1, z2, z3, z4, z5, z6, z7, z8, z9, z10, z11, z12, z13, z14, z15, z16, z17⟩ := HZ7.out
    dsimp only at v0 v1 v2 v3 v4 v5 v6 v7 v8
    have HL := Lib.hid (fun W => isLive_still j.state W)
    have HX8 := Lib.hid (HX7.out.below ((Below.refl _ _).drew))
    have HZ8 := Lib.hid (HZ7.out.below ((Below.refl _ _).drew))
    have HB8 := Lib.hid (below_then HB7.out ((Below.refl _ _).drew))
    go_still_tail 3, (by kernel_rfl)
    still_call (HL.out _)
    refine wpStill_nil ?_
    change wpList _ _ _ _ _ w7.drew
    generalize w7.drew = w8 at *
    clear v v0 v1 v2 v3 v4 v5 v6 v7 v8 z z0 z1 z2 z3 z4 z5 z6 z7 z8 z9 z10 z11 z12 z13 z14 z15 z16 z17
    obtain ⟨v, v0, v1, v2, v3, v4, v5, v6, v7, v8, _, _, _, _, _, _, _, _, _⟩ := HX8.out
    obtain ⟨z, z0, z1, z2, z3, z4, z5, z6, z7, z8, z9, z10, z11, z12, z13, z14, z15, z16, z17⟩ := HZ8.out
    dsimp only at v0 v1 v2 v3 v4 v5 v6 v7 v8
    go_wp2_with fail
    change bodyPost _ _ _ Exit.ret _ (storedJ w8 (w.heap.size + 1) (⟨j.id, j.user, j.width, j.est, j.prio, j.sub, 5, j.start, j.fin⟩ : Jb))
    have HS := Lib.hid (HZ8.out.stored (⟨j.id, j.user, j.width, j.est, j.prio, j.sub, 5, j.start, j.fin⟩ : Jb))
    have HBS := Lib.hid (below_stored HB8.out (show w.heap.size ≤ w.heap.size + 1 by omega) (⟨j.id, j.user, j.width, j.est, j.prio, j.sub, 5, j.start, j.fin⟩ : Jb))
    generalize storedJ w8 (w.heap.size + 1) (⟨j.id, j.user, j.width, j.est, j.prio, j.sub, 5, j.start, j.fin⟩ : Jb) = w9 at *
    clear v v0 v1 v2 v3 v4 v5 v6 v7 v8 z z0 z1 z2 z3 z4 z5 z6 z7 z8 z9 z10 z11 z12 z13 z14 z15 z16 z17
    obtain ⟨z, z0, z1, z2, z3, z4, z5, z6, z7, z8, z9, z10, z11, z12, z13, z14, z15, z16, z17⟩ := HS.out
    dsimp only at z0 z1 z2 z3 z4 z5 z6 z7 z8
    exact bodyPost_ret (v := .tuple #[jobV (⟨j.id, j.user, j.width, j.est, j.prio, j.sub, 5, j.start, j.fin⟩ : Jb), .bool (liveSt j.state)]) (by simp [results, Try.results44, go_sem, z0, z1, z2, z3, z4, z5, z6, z7, z8, jobV, jobA]) rfl ⟨(⟨j.id, j.user, j.width, j.est, j.prio, j.sub, 5, j.start, j.fin⟩ : Jb), by rw [HTS.out, Bool.not_not], HNX.out, HBS.out⟩
  · have HNX : Hid (turnState j 6 = false → (⟨j.id, j.user, j.width, j.est, j.prio, j.sub, 5, j.start, t⟩ : Jb) = nextJ j 6 t) := Lib.hid (fun _ => by rw [hnx, if_pos (by simpa using hd)])
    clear hnx
    go_upto_region 22 with fail
    have HX7 : Hid (JobBox ((W.setCell ⟨w.heap.size, 6, none⟩ (.int .i64 5)).setCell ⟨w.heap.size, 8, none⟩ (.int .i64 t)) w.heap.size (⟨j.id, j.user, j.width, j.est, j.prio, j.sub, 5, j.start, t⟩ : Jb)) := ((HX.out.set6 5).set8 t)
    have HZ7 : Hid (JobBox ((W.setCell ⟨w.heap.size, 6, none⟩ (.int .i64 5)).setCell ⟨w.heap.size, 8, none⟩ (.int .i64 t)) (w.heap.size + 1) noJb) := ((HZ.out.set_other (p := ⟨w.heap.size, 6, none⟩) (by simp) (.int .i64 5)).set_other (p := ⟨w.heap.size, 8, none⟩) (by simp) (.int .i64 t))
    have HB7 : Hid (Below w.heap.size w ((W.setCell ⟨w.heap.size, 6, none⟩ (.int .i64 5)).setCell ⟨w.heap.size, 8, none⟩ (.int .i64 t))) := ((HB.out.setCell (p := ⟨w.heap.size, 6, none⟩) (Nat.le_refl _) (.int .i64 5)).setCell (p := ⟨w.heap.size, 8, none⟩) (Nat.le_refl _) (.int .i64 t))
    generalize ((W.setCell ⟨w.heap.size, 6, none⟩ (.int .i64 5)).setCell ⟨w.heap.size, 8, none⟩ (.int .i64 t)) = w7 at *
    clear HX HZ HB y y0 y1 y2 y3 y4 y5 y6 y7 y8 y9 y10 y11 y12 y13 y14 y15 y16 y17 z z0 z1 z2 z3 z4 z5 z6 z7 z8 z9 z10 z11 z12 z13 z14 z15 z16 z17
    obtain ⟨v, v0, v1, v2, v3, v4, v5, v6, v7, v8, _, _, _, _, _, _, _, _, _⟩ := HX7.out
    obtain ⟨z, z0, z1, z2, z3, z4, z5, z6, z7, z8, z9, z10, z11, z12, z13, z14, z15, z16, z17⟩ := HZ7.out
    dsimp only at v0 v1 v2 v3 v4 v5 v6 v7 v8
    have HL := Lib.hid (fun W => isLive_still j.state W)
    have HX8 := Lib.hid (HX7.out.below ((Below.refl _ _).drew))
    have HZ8 := Lib.hid (HZ7.out.below ((Below.refl _ _).drew))
    have HB8 := Lib.hid (below_then HB7.out ((Below.refl _ _).drew))
    go_still_tail 3, (by kernel_rfl)
    still_call (HL.out _)
    refine wpStill_nil ?_
    change wpList _ _ _ _ _ w7.drew
    generalize w7.drew = w8 at *
    clear v v0 v1 v2 v3 v4 v5 v6 v7 v8 z z0 z1 z2 z3 z4 z5 z6 z7 z8 z9 z10 z11 z12 z13 z14 z15 z16 z17
    obtain ⟨v, v0, v1, v2, v3, v4, v5, v6, v7, v8, _, _, _, _, _, _, _, _, _⟩ := HX8.out
    obtain ⟨z, z0, z1, z2, z3, z4, z5, z6, z7, z8, z9, z10, z11, z12, z13, z14, z15, z16, z17⟩ := HZ8.out
    dsimp only at v0 v1 v2 v3 v4 v5 v6 v7 v8
    go_wp2_with fail
    change bodyPost _ _ _ Exit.ret _ (storedJ w8 (w.heap.size + 1) (⟨j.id, j.user, j.width, j.est, j.prio, j.sub, 5, j.start, t⟩ : Jb))
    have HS := Lib.hid (HZ8.out.stored (⟨j.id, j.user, j.width, j.est, j.prio, j.sub, 5, j.start, t⟩ : Jb))
    have HBS := Lib.hid (below_stored HB8.out (show w.heap.size ≤ w.heap.size + 1 by omega) (⟨j.id, j.user, j.width, j.est, j.prio, j.sub, 5, j.start, t⟩ : Jb))
    generalize storedJ w8 (w.heap.size + 1) (⟨j.id, j.user, j.width, j.est, j.prio, j.sub, 5, j.start, t⟩ : Jb) = w9 at *
    clear v v0 v1 v2 v3 v4 v5 v6 v7 v8 z z0 z1 z2 z3 z4 z5 z6 z7 z8 z9 z10 z11 z12 z13 z14 z15 z16 z17
    obtain ⟨z, z0, z1, z2, z3, z4, z5, z6, z7, z8, z9, z10, z11, z12, z13, z14, z15, z16, z17⟩ := HS.out
    dsimp only at z0 z1 z2 z3 z4 z5 z6 z7 z8
    exact bodyPost_ret (v := .tuple #[jobV (⟨j.id, j.user, j.width, j.est, j.prio, j.sub, 5, j.start, t⟩ : Jb), .bool (liveSt j.state)]) (by simp [results, Try.results44, go_sem, z0, z1, z2, z3, z4, z5, z6, z7, z8, jobV, jobA]) rfl ⟨(⟨j.id, j.user, j.width, j.est, j.prio, j.sub, 5, j.start, t⟩ : Jb), by rw [HTS.out, Bool.not_not], HNX.out, HBS.out⟩
set_option maxRecDepth 100000 in
set_option maxHeartbeats 6400000 in
theorem after_any (j : Jb) (ev t : Int) (w : World) (h1 : decide (ev < 1) = false) (h2 : decide (6 < ev) = false) (h0 : 0 ≤ j.state) : Calls Try.prog 44 #[jobV j, .int .i64 ev, .int .i64 t] w (AfterIs j ev t w) := by
  have HH := Lib.hid (two_jobs w j 28)
  have hev := ev_ways j ev t h1 h2
  by_cases h6 : ev = 6
  · subst h6; exact after6 j t w h0
  unfold jobV jobA
  go_enter Try.func44, Try.ntmps44
  go_upto_region 1 with fail
  generalize ((w.alloc (.cells #[.int .i64 j.id, .string j.user, .int .i64 j.width, .int .i64 j.est, .int .i64 j.prio, .int .i64 j.sub, .int .i64 j.state, .int .i64 j.start, .int .i64 j.fin] 28)).alloc (.cells #[.int .i64 0, .string ⟨#[]⟩, .int .i64 0, .int .i64 0, .int .i64 0, .int .i64 0, .int .i64 0, .int .i64 0, .int .i64 0] 28)) = W at *
  have HX := Lib.hid HH.out.1
  have HZ := Lib.hid HH.out.2.1
  have HB := Lib.hid HH.out.2.2
  obtain ⟨y, y0, y1, y2, y3, y4, y5, y6, y7, y8, y9, y10, y11, y12, y13, y14, y15, y16, y17⟩ := HX.out
  obtain ⟨z, z0, z1, z2, z3, z4, z5, z6, z7, z8, z9, z10, z11, z12, z13, z14, z15, z16, z17⟩ := HZ.out
  clear HH h1 h2
  rcases hev with ⟨f, s, b, ⟨rfl, rfl, rfl, rfl⟩ | ⟨rfl, rfl, rfl, rfl⟩ | ⟨rfl, rfl, rfl, rfl⟩ | ⟨rfl, rfl, rfl, rfl⟩ | ⟨rfl, rfl, rfl, rfl⟩, hts, hnx⟩ | ⟨rfl, hts, hnx⟩
  · cases hd : (j.state == 1)
    · have HTS : Hid (turnState j 1 = true) := by rw [hts]; show (!(j.state == 1)) = _; rw [hd]; rfl
      have HNX : Hid (turnState j 1 = false → (⟨j.id, j.user, j.width, j.est, j.prio, j.sub, 0, j.start, j.fin⟩ : Jb) = nextJ j 1 t) := Lib.hid (fun h => by rw [HTS.out] at h; cases h)
      clear hts hnx
      go_upto_region 5 with fail
      have HX7 : Hid (JobBox (W.setCell ⟨w.heap.size, 6, none⟩ (.int .i64 0)) w.heap.size (⟨j.id, j.user, j.width, j.est, j.prio, j.sub, 0, j.start, j.fin⟩ : Jb)) := (HX.out.set6 0)
      have HZ7 : Hid (JobBox (W.setCell ⟨w.heap.size, 6, none⟩ (.int .i64 0)) (w.heap.size + 1) noJb) := (HZ.out.set_other (p := ⟨w.heap.size, 6, none⟩) (by simp) (.int .i64 0))
      have HB7 : Hid (Below w.heap.size w (W.setCell ⟨w.heap.size, 6, none⟩ (.int .i64 0))) := (HB.out.setCell (p := ⟨w.heap.size, 6, none⟩) (Nat.le_refl _) (.int .i64 0))
      generalize (W.setCell ⟨w.heap.size, 6, none⟩ (.int .i64 0)) = w7 at *
      clear HX HZ HB y y0 y1 y2 y3 y4 y5 y6 y7 y8 y9 y10 y11 y12 y13 y14 y15 y16 y17 z z0 z1 z2 z3 z4 z5 z6 z7 z8 z9 z10 z11 z12 z13 z14 z15 z16 z17
      obtain ⟨v, v0, v1, v2, v3, v4, v5, v6, v7, v8, _, _, _, _, _, _, _, _, _⟩ := HX7.out
      obtain ⟨z, z0, z1, z2, z3, z4, z5, z6, z7, z8, z9, z10, z11, z12, z13, z14, z15, z16, z17⟩ := HZ7.out
      dsimp only at v0 v1 v2 v3 v4 v5 v6 v7 v8
      go_wp2_with fail
      change bodyPost _ _ _ Exit.ret _ (storedJ w7 (w.heap.size + 1) (⟨j.id, j.user, j.width, j.est, j.prio, j.sub, 0, j.start, j.fin⟩ : Jb))
      have HS := Lib.hid (HZ7.out.stored (⟨j.id, j.user, j.width, j.est, j.prio, j.sub, 0, j.start, j.fin⟩ : Jb))
      have HBS := Lib.hid (below_stored HB7.out (show w.heap.size ≤ w.heap.size + 1 by omega) (⟨j.id, j.user, j.width, j.est, j.prio, j.sub, 0, j.start, j.fin⟩ : Jb))
      generalize storedJ w7 (w.heap.size + 1) (⟨j.id, j.user, j.width, j.est, j.prio, j.sub, 0, j.start, j.fin⟩ : Jb) = w9 at *
      clear v v0 v1 v2 v3 v4 v5 v6 v7 v8 z z0 z1 z2 z3 z4 z5 z6 z7 z8 z9 z10 z11 z12 z13 z14 z15 z16 z17
      obtain ⟨z, z0, z1, z2, z3, z4, z5, z6, z7, z8, z9, z10, z11, z12, z13, z14, z15, z16, z17⟩ := HS.out
      dsimp only at z0 z1 z2 z3 z4 z5 z6 z7 z8
      exact bodyPost_ret (v := .tuple #[jobV (⟨j.id, j.user, j.width, j.est, j.prio, j.sub, 0, j.start, j.fin⟩ : Jb), .bool false]) (by simp [results, Try.results44, go_sem, z0, z1, z2, z3, z4, z5, z6, z7, z8, jobV, jobA]) rfl ⟨(⟨j.id, j.user, j.width, j.est, j.prio, j.sub, 0, j.start, j.fin⟩ : Jb), by rw [HTS.out]; rfl, HNX.out, HBS.out⟩
    · have HTS : Hid (turnState j 1 = false) := by rw [hts]; show (!(j.state == 1)) = _; rw [hd]; rfl
      have HNX : Hid (turnState j 1 = false → (⟨j.id, j.user, j.width, j.est, j.prio, j.sub, 0, j.start, j.fin⟩ : Jb) = nextJ j 1 t) := Lib.hid (fun _ => by rw [hnx (by simpa using hd)]; rfl)
      clear hts hnx
      go_upto_region 5 with fail
      have HX7 : Hid (JobBox (W.setCell ⟨w.heap.size, 6, none⟩ (.int .i64 0)) w.heap.size (⟨j.id, j.user, j.width, j.est, j.prio, j.sub, 0, j.start, j.fin⟩ : Jb)) := (HX.out.set6 0)
      have HZ7 : Hid (JobBox (W.setCell ⟨w.heap.size, 6, none⟩ (.int .i64 0)) (w.heap.size + 1) noJb) := (HZ.out.set_other (p := ⟨w.heap.size, 6, none⟩) (by simp) (.int .i64 0))
      have HB7 : Hid (Below w.heap.size w (W.setCell ⟨w.heap.size, 6, none⟩ (.int .i64 0))) := (HB.out.setCell (p := ⟨w.heap.size, 6, none⟩) (Nat.le_refl _) (.int .i64 0))
      generalize (W.setCell ⟨w.heap.size, 6, none⟩ (.int .i64 0)) = w7 at *
      clear HX HZ HB y y0 y1 y2 y3 y4 y5 y6 y7 y8 y9 y10 y11 y12 y13 y14 y15 y16 y17 z z0 z1 z2 z3 z4 z5 z6 z7 z8 z9 z10 z11 z12 z13 z14 z15 z16 z17
      obtain ⟨v, v0, v1, v2, v3, v4, v5, v6, v7, v8, _, _, _, _, _, _, _, _, _⟩ := HX7.out
      obtain ⟨z, z0, z1, z2, z3, z4, z5, z6, z7, z8, z9, z10, z11, z12, z13, z14, z15, z16, z17⟩ := HZ7.out
      dsimp only at v0 v1 v2 v3 v4 v5 v6 v7 v8
      go_wp2_with fail
      change bodyPost _ _ _ Exit.ret _ (storedJ w7 (w.heap.size + 1) (⟨j.id, j.user, j.width, j.est, j.prio, j.sub, 0, j.start, j.fin⟩ : Jb))
      have HS := Lib.hid (HZ7.out.stored (⟨j.id, j.user, j.width, j.est, j.prio, j.sub, 0, j.start, j.fin⟩ : Jb))
      have HBS := Lib.hid (below_stored HB7.out (show w.heap.size ≤ w.heap.size + 1 by omega) (⟨j.id, j.user, j.width, j.est, j.prio, j.sub, 0, j.start, j.fin⟩ : Jb))
      generalize storedJ w7 (w.heap.size + 1) (⟨j.id, j.user, j.width, j.est, j.prio, j.sub, 0, j.start, j.fin⟩ : Jb) = w9 at *
      clear v v0 v1 v2 v3 v4 v5 v6 v7 v8 z z0 z1 z2 z3 z4 z5 z6 z7 z8 z9 z10 z11 z12 z13 z14 z15 z16 z17
      obtain ⟨z, z0, z1, z2, z3, z4, z5, z6, z7, z8, z9, z10, z11, z12, z13, z14, z15, z16, z17⟩ := HS.out
      dsimp only at z0 z1 z2 z3 z4 z5 z6 z7 z8
      exact bodyPost_ret (v := .tuple #[jobV (⟨j.id, j.user, j.width, j.est, j.prio, j.sub, 0, j.start, j.fin⟩ : Jb), .bool true]) (by simp [results, Try.results44, go_sem, z0, z1, z2, z3, z4, z5, z6, z7, z8, jobV, jobA]) rfl ⟨(⟨j.id, j.user, j.width, j.est, j.prio, j.sub, 0, j.start, j.fin⟩ : Jb), by rw [HTS.out]; rfl, HNX.out, HBS.out⟩
  · cases hd : (j.state == 0)
    · have HTS : Hid (turnState j 2 = true) := by rw [hts]; show (!(j.state == 0)) = _; rw [hd]; rfl
      have HNX : Hid (turnState j 2 = false → (⟨j.id, j.user, j.width, j.est, j.prio, j.sub, 1, j.start, j.fin⟩ : Jb) = nextJ j 2 t) := Lib.hid (fun h => by rw [HTS.out] at h; cases h)
      clear hts hnx
      go_upto_region 8 with fail
      have HX7 : Hid (JobBox (W.setCell ⟨w.heap.size, 6, none⟩ (.int .i64 1)) w.heap.size (⟨j.id, j.user, j.width, j.est, j.prio, j.sub, 1, j.start, j.fin⟩ : Jb)) := (HX.out.set6 1)
      have HZ7 : Hid (JobBox (W.setCell ⟨w.heap.size, 6, none⟩ (.int .i64 1)) (w.heap.size + 1) noJb) := (HZ.out.set_other (p := ⟨w.heap.size, 6, none⟩) (by simp) (.int .i64 1))
      have HB7 : Hid (Below w.heap.size w (W.setCell ⟨w.heap.size, 6, none⟩ (.int .i64 1))) := (HB.out.setCell (p := ⟨w.heap.size, 6, none⟩) (Nat.le_refl _) (.int .i64 1))
      generalize (W.setCell ⟨w.heap.size, 6, none⟩ (.int .i64 1)) = w7 at *
      clear HX HZ HB y y0 y1 y2 y3 y4 y5 y6 y7 y8 y9 y10 y11 y12 y13 y14 y15 y16 y17 z z0 z1 z2 z3 z4 z5 z6 z7 z8 z9 z10 z11 z12 z13 z14 z15 z16 z17
      obtain ⟨v, v0, v1, v2, v3, v4, v5, v6, v7, v8, _, _, _, _, _, _, _, _, _⟩ := HX7.out
      obtain ⟨z, z0, z1, z2, z3, z4, z5, z6, z7, z8, z9, z10, z11, z12, z13, z14, z15, z16, z17⟩ := HZ7.out
      dsimp only at v0 v1 v2 v3 v4 v5 v6 v7 v8
      go_wp2_with fail
      change bodyPost _ _ _ Exit.ret _ (storedJ w7 (w.heap.size + 1) (⟨j.id, j.user, j.width, j.est, j.prio, j.sub, 1, j.start, j.fin⟩ : Jb))
      have HS := Lib.hid (HZ7.out.stored (⟨j.id, j.user, j.width, j.est, j.prio, j.sub, 1, j.start, j.fin⟩ : Jb))
      have HBS := Lib.hid (below_stored HB7.out (show w.heap.size ≤ w.heap.size + 1 by omega) (⟨j.id, j.user, j.width, j.est, j.prio, j.sub, 1, j.start, j.fin⟩ : Jb))
      generalize storedJ w7 (w.heap.size + 1) (⟨j.id, j.user, j.width, j.est, j.prio, j.sub, 1, j.start, j.fin⟩ : Jb) = w9 at *
      clear v v0 v1 v2 v3 v4 v5 v6 v7 v8 z z0 z1 z2 z3 z4 z5 z6 z7 z8 z9 z10 z11 z12 z13 z14 z15 z16 z17
      obtain ⟨z, z0, z1, z2, z3, z4, z5, z6, z7, z8, z9, z10, z11, z12, z13, z14, z15, z16, z17⟩ := HS.out
      dsimp only at z0 z1 z2 z3 z4 z5 z6 z7 z8
      exact bodyPost_ret (v := .tuple #[jobV (⟨j.id, j.user, j.width, j.est, j.prio, j.sub, 1, j.start, j.fin⟩ : Jb), .bool false]) (by simp [results, Try.results44, go_sem, z0, z1, z2, z3, z4, z5, z6, z7, z8, jobV, jobA]) rfl ⟨(⟨j.id, j.user, j.width, j.est, j.prio, j.sub, 1, j.start, j.fin⟩ : Jb), by rw [HTS.out]; rfl, HNX.out, HBS.out⟩
    · have HTS : Hid (turnState j 2 = false) := by rw [hts]; show (!(j.state == 0)) = _; rw [hd]; rfl
      have HNX : Hid (turnState j 2 = false → (⟨j.id, j.user, j.width, j.est, j.prio, j.sub, 1, j.start, j.fin⟩ : Jb) = nextJ j 2 t) := Lib.hid (fun _ => by rw [hnx (by simpa using hd)]; rfl)
      clear hts hnx
      go_upto_region 8 with fail
      have HX7 : Hid (JobBox (W.setCell ⟨w.heap.size, 6, none⟩ (.int .i64 1)) w.heap.size (⟨j.id, j.user, j.width, j.est, j.prio, j.sub, 1, j.start, j.fin⟩ : Jb)) := (HX.out.set6 1)
      have HZ7 : Hid (JobBox (W.setCell ⟨w.heap.size, 6, none⟩ (.int .i64 1)) (w.heap.size + 1) noJb) := (HZ.out.set_other (p := ⟨w.heap.size, 6, none⟩) (by simp) (.int .i64 1))
      have HB7 : Hid (Below w.heap.size w (W.setCell ⟨w.heap.size, 6, none⟩ (.int .i64 1))) := (HB.out.setCell (p := ⟨w.heap.size, 6, none⟩) (Nat.le_refl _) (.int .i64 1))
      generalize (W.setCell ⟨w.heap.size, 6, none⟩ (.int .i64 1)) = w7 at *
      clear HX HZ HB y y0 y1 y2 y3 y4 y5 y6 y7 y8 y9 y10 y11 y12 y13 y14 y15 y16 y17 z z0 z1 z2 z3 z4 z5 z6 z7 z8 z9 z10 z11 z12 z13 z14 z15 z16 z17
      obtain ⟨v, v0, v1, v2, v3, v4, v5, v6, v7, v8, _, _, _, _, _, _, _, _, _⟩ := HX7.out
      obtain ⟨z, z0, z1, z2, z3, z4, z5, z6, z7, z8, z9, z10, z11, z12, z13, z14, z15, z16, z17⟩ := HZ7.out
      dsimp only at v0 v1 v2 v3 v4 v5 v6 v7 v8
      go_wp2_with fail
      change bodyPost _ _ _ Exit.ret _ (storedJ w7 (w.heap.size + 1) (⟨j.id, j.user, j.width, j.est, j.prio, j.sub, 1, j.start, j.fin⟩ : Jb))
      have HS := Lib.hid (HZ7.out.stored (⟨j.id, j.user, j.width, j.est, j.prio, j.sub, 1, j.start, j.fin⟩ : Jb))
      have HBS := Lib.hid (below_stored HB7.out (show w.heap.size ≤ w.heap.size + 1 by omega) (⟨j.id, j.user, j.width, j.est, j.prio, j.sub, 1, j.start, j.fin⟩ : Jb))
      generalize storedJ w7 (w.heap.size + 1) (⟨j.id, j.user, j.width, j.est, j.prio, j.sub, 1, j.start, j.fin⟩ : Jb) = w9 at *
      clear v v0 v1 v2 v3 v4 v5 v6 v7 v8 z z0 z1 z2 z3 z4 z5 z6 z7 z8 z9 z10 z11 z12 z13 z14 z15 z16 z17
      obtain ⟨z, z0, z1, z2, z3, z4, z5, z6, z7, z8, z9, z10, z11, z12, z13, z14, z15, z16, z17⟩ := HS.out
      dsimp only at z0 z1 z2 z3 z4 z5 z6 z7 z8
      exact bodyPost_ret (v := .tuple #[jobV (⟨j.id, j.user, j.width, j.est, j.prio, j.sub, 1, j.start, j.fin⟩ : Jb), .bool true]) (by simp [results, Try.results44, go_sem, z0, z1, z2, z3, z4, z5, z6, z7, z8, jobV, jobA]) rfl ⟨(⟨j.id, j.user, j.width, j.est, j.prio, j.sub, 1, j.start, j.fin⟩ : Jb), by rw [HTS.out]; rfl, HNX.out, HBS.out⟩
  · cases hd : (j.state == 1)
    · have HTS : Hid (turnState j 3 = true) := by rw [hts]; show (!(j.state == 1)) = _; rw [hd]; rfl
      have HNX : Hid (turnState j 3 = false → (⟨j.id, j.user, j.width, j.est, j.prio, j.sub, 2, t, j.fin⟩ : Jb) = nextJ j 3 t) := Lib.hid (fun h => by rw [HTS.out] at h; cases h)
      clear hts hnx
      go_upto_region 11 with fail
      have HX7 : Hid (JobBox ((W.setCell ⟨w.heap.size, 6, none⟩ (.int .i64 2)).setCell ⟨w.heap.size, 7, none⟩ (.int .i64 t)) w.heap.size (⟨j.id, j.user, j.width, j.est, j.prio, j.sub, 2, t, j.fin⟩ : Jb)) := ((HX.out.set6 2).set7 t)
      have HZ7 : Hid (JobBox ((W.setCell ⟨w.heap.size, 6, none⟩ (.int .i64 2)).setCell ⟨w.heap.size, 7, none⟩ (.int .i64 t)) (w.heap.size + 1) noJb) := ((HZ.out.set_other (p := ⟨w.heap.size, 6, none⟩) (by simp) (.int .i64 2)).set_other (p := ⟨w.heap.size, 7, none⟩) (by simp) (.int .i64 t))
      have HB7 : Hid (Below w.heap.size w ((W.setCell ⟨w.heap.size, 6, none⟩ (.int .i64 2)).setCell ⟨w.heap.size, 7, none⟩ (.int .i64 t))) := ((HB.out.setCell (p := ⟨w.heap.size, 6, none⟩) (Nat.le_refl _) (.int .i64 2)).setCell (p := ⟨w.heap.size, 7, none⟩) (Nat.le_refl _) (.int .i64 t))
      generalize ((W.setCell ⟨w.heap.size, 6, none⟩ (.int .i64 2)).setCell ⟨w.heap.size, 7, none⟩ (.int .i64 t)) = w7 at *
      clear HX HZ HB y y0 y1 y2 y3 y4 y5 y6 y7 y8 y9 y10 y11 y12 y13 y14 y15 y16 y17 z z0 z1 z2 z3 z4 z5 z6 z7 z8 z9 z10 z11 z12 z13 z14 z15 z16 z17
      obtain ⟨v, v0, v1, v2, v3, v4, v5, v6, v7, v8, _, _, _, _, _, _, _, _, _⟩ := HX7.out
      obtain ⟨z, z0, z1, z2, z3, z4, z5, z6, z7, z8, z9, z10, z11, z12, z13, z14, z15, z16, z17⟩ := HZ7.out
      dsimp only at v0 v1 v2 v3 v4 v5 v6 v7 v8
      go_wp2_with fail
      change bodyPost _ _ _ Exit.ret _ (storedJ w7 (w.heap.size + 1) (⟨j.id, j.user, j.width, j.est, j.prio, j.sub, 2, t, j.fin⟩ : Jb))
      have HS := Lib.hid (HZ7.out.stored (⟨j.id, j.user, j.width, j.est, j.prio, j.sub, 2, t, j.fin⟩ : Jb))
      have HBS := Lib.hid (below_stored HB7.out (show w.heap.size ≤ w.heap.size + 1 by omega) (⟨j.id, j.user, j.width, j.est, j.prio, j.sub, 2, t, j.fin⟩ : Jb))
      generalize storedJ w7 (w.heap.size + 1) (⟨j.id, j.user, j.width, j.est, j.prio, j.sub, 2, t, j.fin⟩ : Jb) = w9 at *
      clear v v0 v1 v2 v3 v4 v5 v6 v7 v8 z z0 z1 z2 z3 z4 z5 z6 z7 z8 z9 z10 z11 z12 z13 z14 z15 z16 z17
      obtain ⟨z, z0, z1, z2, z3, z4, z5, z6, z7, z8, z9, z10, z11, z12, z13, z14, z15, z16, z17⟩ := HS.out
      dsimp only at z0 z1 z2 z3 z4 z5 z6 z7 z8
      exact bodyPost_ret (v := .tuple #[jobV (⟨j.id, j.user, j.width, j.est, j.prio, j.sub, 2, t, j.fin⟩ : Jb), .bool false]) (by simp [results, Try.results44, go_sem, z0, z1, z2, z3, z4, z5, z6, z7, z8, jobV, jobA]) rfl ⟨(⟨j.id, j.user, j.width, j.est, j.prio, j.sub, 2, t, j.fin⟩ : Jb), by rw [HTS.out]; rfl, HNX.out, HBS.out⟩
    · have HTS : Hid (turnState j 3 = false) := by rw [hts]; show (!(j.state == 1)) = _; rw [hd]; rfl
      have HNX : Hid (turnState j 3 = false → (⟨j.id, j.user, j.width, j.est, j.prio, j.sub, 2, t, j.fin⟩ : Jb) = nextJ j 3 t) := Lib.hid (fun _ => by rw [hnx (by simpa using hd)]; rfl)
      clear hts hnx
      go_upto_region 11 with fail
      have HX7 : Hid (JobBox ((W.setCell ⟨w.heap.size, 6, none⟩ (.int .i64 2)).setCell ⟨w.heap.size, 7, none⟩ (.int .i64 t)) w.heap.size (⟨j.id, j.user, j.width, j.est, j.prio, j.sub, 2, t, j.fin⟩ : Jb)) := ((HX.out.set6 2).set7 t)
      have HZ7 : Hid (JobBox ((W.setCell ⟨w.heap.size, 6, none⟩ (.int .i64 2)).setCell ⟨w.heap.size, 7, none⟩ (.int .i64 t)) (w.heap.size + 1) noJb) := ((HZ.out.set_other (p := ⟨w.heap.size, 6, none⟩) (by simp) (.int .i64 2)).set_other (p := ⟨w.heap.size, 7, none⟩) (by simp) (.int .i64 t))
      have HB7 : Hid (Below w.heap.size w ((W.setCell ⟨w.heap.size, 6, none⟩ (.int .i64 2)).setCell ⟨w.heap.size, 7, none⟩ (.int .i64 t))) := ((HB.out.setCell (p := ⟨w.heap.size, 6, none⟩) (Nat.le_refl _) (.int .i64 2)).setCell (p := ⟨w.heap.size, 7, none⟩) (Nat.le_refl _) (.int .i64 t))
      generalize ((W.setCell ⟨w.heap.size, 6, none⟩ (.int .i64 2)).setCell ⟨w.heap.size, 7, none⟩ (.int .i64 t)) = w7 at *
      clear HX HZ HB y y0 y1 y2 y3 y4 y5 y6 y7 y8 y9 y10 y11 y12 y13 y14 y15 y16 y17 z z0 z1 z2 z3 z4 z5 z6 z7 z8 z9 z10 z11 z12 z13 z14 z15 z16 z17
      obtain ⟨v, v0, v1, v2, v3, v4, v5, v6, v7, v8, _, _, _, _, _, _, _, _, _⟩ := HX7.out
      obtain ⟨z, z0, z1, z2, z3, z4, z5, z6, z7, z8, z9, z10, z11, z12, z13, z14, z15, z16, z17⟩ := HZ7.out
      dsimp only at v0 v1 v2 v3 v4 v5 v6 v7 v8
      go_wp2_with fail
      change bodyPost _ _ _ Exit.ret _ (storedJ w7 (w.heap.size + 1) (⟨j.id, j.user, j.width, j.est, j.prio, j.sub, 2, t, j.fin⟩ : Jb))
      have HS := Lib.hid (HZ7.out.stored (⟨j.id, j.user, j.width, j.est, j.prio, j.sub, 2, t, j.fin⟩ : Jb))
      have HBS := Lib.hid (below_stored HB7.out (show w.heap.size ≤ w.heap.size + 1 by omega) (⟨j.id, j.user, j.width, j.est, j.prio, j.sub, 2, t, j.fin⟩ : Jb))
      generalize storedJ w7 (w.heap.size + 1) (⟨j.id, j.user, j.width, j.est, j.prio, j.sub, 2, t, j.fin⟩ : Jb) = w9 at *
      clear v v0 v1 v2 v3 v4 v5 v6 v7 v8 z z0 z1 z2 z3 z4 z5 z6 z7 z8 z9 z10 z11 z12 z13 z14 z15 z16 z17
      obtain ⟨z, z0, z1, z2, z3, z4, z5, z6, z7, z8, z9, z10, z11, z12, z13, z14, z15, z16, z17⟩ := HS.out
      dsimp only at z0 z1 z2 z3 z4 z5 z6 z7 z8
      exact bodyPost_ret (v := .tuple #[jobV (⟨j.id, j.user, j.width, j.est, j.prio, j.sub, 2, t, j.fin⟩ : Jb), .bool true]) (by simp [results, Try.results44, go_sem, z0, z1, z2, z3, z4, z5, z6, z7, z8, jobV, jobA]) rfl ⟨(⟨j.id, j.user, j.width, j.est, j.prio, j.sub, 2, t, j.fin⟩ : Jb), by rw [HTS.out]; rfl, HNX.out, HBS.out⟩
  · cases hd : (j.state == 2)
    · have HTS : Hid (turnState j 4 = true) := by rw [hts]; show (!(j.state == 2)) = _; rw [hd]; rfl
      have HNX : Hid (turnState j 4 = false → (⟨j.id, j.user, j.width, j.est, j.prio, j.sub, 3, j.start, t⟩ : Jb) = nextJ j 4 t) := Lib.hid (fun h => by rw [HTS.out] at h; cases h)
      clear hts hnx
      go_upto_region 14 with fail
      have HX7 : Hid (JobBox ((W.setCell ⟨w.heap.size, 6, none⟩ (.int .i64 3)).setCell ⟨w.heap.size, 8, none⟩ (.int .i64 t)) w.heap.size (⟨j.id, j.user, j.width, j.est, j.prio, j.sub, 3, j.start, t⟩ : Jb)) := ((HX.out.set6 3).set8 t)
      have HZ7 : Hid (JobBox ((W.setCell ⟨w.heap.size, 6, none⟩ (.int .i64 3)).setCell ⟨w.heap.size, 8, none⟩ (.int .i64 t)) (w.heap.size + 1) noJb) := ((HZ.out.set_other (p := ⟨w.heap.size, 6, none⟩) (by simp) (.int .i64 3)).set_other (p := ⟨w.heap.size, 8, none⟩) (by simp) (.int .i64 t))
      have HB7 : Hid (Below w.heap.size w ((W.setCell ⟨w.heap.size, 6, none⟩ (.int .i64 3)).setCell ⟨w.heap.size, 8, none⟩ (.int .i64 t))) := ((HB.out.setCell (p := ⟨w.heap.size, 6, none⟩) (Nat.le_refl _) (.int .i64 3)).setCell (p := ⟨w.heap.size, 8, none⟩) (Nat.le_refl _) (.int .i64 t))
      generalize ((W.setCell ⟨w.heap.size, 6, none⟩ (.int .i64 3)).setCell ⟨w.heap.size, 8, none⟩ (.int .i64 t)) = w7 at *
      clear HX HZ HB y y0 y1 y2 y3 y4 y5 y6 y7 y8 y9 y10 y11 y12 y13 y14 y15 y16 y17 z z0 z1 z2 z3 z4 z5 z6 z7 z8 z9 z10 z11 z12 z13 z14 z15 z16 z17
      obtain ⟨v, v0, v1, v2, v3, v4, v5, v6, v7, v8, _, _, _, _, _, _, _, _, _⟩ := HX7.out
      obtain ⟨z, z0, z1, z2, z3, z4, z5, z6, z7, z8, z9, z10, z11, z12, z13, z14, z15, z16, z17⟩ := HZ7.out
      dsimp only at v0 v1 v2 v3 v4 v5 v6 v7 v8
      go_wp2_with fail
      change bodyPost _ _ _ Exit.ret _ (storedJ w7 (w.heap.size + 1) (⟨j.id, j.user, j.width, j.est, j.prio, j.sub, 3, j.start, t⟩ : Jb))
      have HS := Lib.hid (HZ7.out.stored (⟨j.id, j.user, j.width, j.est, j.prio, j.sub, 3, j.start, t⟩ : Jb))
      have HBS := Lib.hid (below_stored HB7.out (show w.heap.size ≤ w.heap.size + 1 by omega) (⟨j.id, j.user, j.width, j.est, j.prio, j.sub, 3, j.start, t⟩ : Jb))
      generalize storedJ w7 (w.heap.size + 1) (⟨j.id, j.user, j.width, j.est, j.prio, j.sub, 3, j.start, t⟩ : Jb) = w9 at *
      clear v v0 v1 v2 v3 v4 v5 v6 v7 v8 z z0 z1 z2 z3 z4 z5 z6 z7 z8 z9 z10 z11 z12 z13 z14 z15 z16 z17
      obtain ⟨z, z0, z1, z2, z3, z4, z5, z6, z7, z8, z9, z10, z11, z12, z13, z14, z15, z16, z17⟩ := HS.out
      dsimp only at z0 z1 z2 z3 z4 z5 z6 z7 z8
      exact bodyPost_ret (v := .tuple #[jobV (⟨j.id, j.user, j.width, j.est, j.prio, j.sub, 3, j.start, t⟩ : Jb), .bool false]) (by simp [results, Try.results44, go_sem, z0, z1, z2, z3, z4, z5, z6, z7, z8, jobV, jobA]) rfl ⟨(⟨j.id, j.user, j.width, j.est, j.prio, j.sub, 3, j.start, t⟩ : Jb), by rw [HTS.out]; rfl, HNX.out, HBS.out⟩
    · have HTS : Hid (turnState j 4 = false) := by rw [hts]; show (!(j.state == 2)) = _; rw [hd]; rfl
      have HNX : Hid (turnState j 4 = false → (⟨j.id, j.user, j.width, j.est, j.prio, j.sub, 3, j.start, t⟩ : Jb) = nextJ j 4 t) := Lib.hid (fun _ => by rw [hnx (by simpa using hd)]; rfl)
      clear hts hnx
      go_upto_region 14 with fail
      have HX7 : Hid (JobBox ((W.setCell ⟨w.heap.size, 6, none⟩ (.int .i64 3)).setCell ⟨w.heap.size, 8, none⟩ (.int .i64 t)) w.heap.size (⟨j.id, j.user, j.width, j.est, j.prio, j.sub, 3, j.start, t⟩ : Jb)) := ((HX.out.set6 3).set8 t)
      have HZ7 : Hid (JobBox ((W.setCell ⟨w.heap.size, 6, none⟩ (.int .i64 3)).setCell ⟨w.heap.size, 8, none⟩ (.int .i64 t)) (w.heap.size + 1) noJb) := ((HZ.out.set_other (p := ⟨w.heap.size, 6, none⟩) (by simp) (.int .i64 3)).set_other (p := ⟨w.heap.size, 8, none⟩) (by simp) (.int .i64 t))
      have HB7 : Hid (Below w.heap.size w ((W.setCell ⟨w.heap.size, 6, none⟩ (.int .i64 3)).setCell ⟨w.heap.size, 8, none⟩ (.int .i64 t))) := ((HB.out.setCell (p := ⟨w.heap.size, 6, none⟩) (Nat.le_refl _) (.int .i64 3)).setCell (p := ⟨w.heap.size, 8, none⟩) (Nat.le_refl _) (.int .i64 t))
      generalize ((W.setCell ⟨w.heap.size, 6, none⟩ (.int .i64 3)).setCell ⟨w.heap.size, 8, none⟩ (.int .i64 t)) = w7 at *
      clear HX HZ HB y y0 y1 y2 y3 y4 y5 y6 y7 y8 y9 y10 y11 y12 y13 y14 y15 y16 y17 z z0 z1 z2 z3 z4 z5 z6 z7 z8 z9 z10 z11 z12 z13 z14 z15 z16 z17
      obtain ⟨v, v0, v1, v2, v3, v4, v5, v6, v7, v8, _, _, _, _, _, _, _, _, _⟩ := HX7.out
      obtain ⟨z, z0, z1, z2, z3, z4, z5, z6, z7, z8, z9, z10, z11, z12, z13, z14, z15, z16, z17⟩ := HZ7.out
      dsimp only at v0 v1 v2 v3 v4 v5 v6 v7 v8
      go_wp2_with fail
      change bodyPost _ _ _ Exit.ret _ (storedJ w7 (w.heap.size + 1) (⟨j.id, j.user, j.width, j.est, j.prio, j.sub, 3, j.start, t⟩ : Jb))
      have HS := Lib.hid (HZ7.out.stored (⟨j.id, j.user, j.width, j.est, j.prio, j.sub, 3, j.start, t⟩ : Jb))
      have HBS := Lib.hid (below_stored HB7.out (show w.heap.size ≤ w.heap.size + 1 by omega) (⟨j.id, j.user, j.width, j.est, j.prio, j.sub, 3, j.start, t⟩ : Jb))
      generalize storedJ w7 (w.heap.size + 1) (⟨j.id, j.user, j.width, j.est, j.prio, j.sub, 3, j.start, t⟩ : Jb) = w9 at *
      clear v v0 v1 v2 v3 v4 v5 v6 v7 v8 z z0 z1 z2 z3 z4 z5 z6 z7 z8 z9 z10 z11 z12 z13 z14 z15 z16 z17
      obtain ⟨z, z0, z1, z2, z3, z4, z5, z6, z7, z8, z9, z10, z11, z12, z13, z14, z15, z16, z17⟩ := HS.out
      dsimp only at z0 z1 z2 z3 z4 z5 z6 z7 z8
      exact bodyPost_ret (v := .tuple #[jobV (⟨j.id, j.user, j.width, j.est, j.prio, j.sub, 3, j.start, t⟩ : Jb), .bool true]) (by simp [results, Try.results44, go_sem, z0, z1, z2, z3, z4, z5, z6, z7, z8, jobV, jobA]) rfl ⟨(⟨j.id, j.user, j.width, j.est, j.prio, j.sub, 3, j.start, t⟩ : Jb), by rw [HTS.out]; rfl, HNX.out, HBS.out⟩
  · cases hd : (j.state == 2)
    · have HTS : Hid (turnState j 5 = true) := by rw [hts]; show (!(j.state == 2)) = _; rw [hd]; rfl
      have HNX : Hid (turnState j 5 = false → (⟨j.id, j.user, j.width, j.est, j.prio, j.sub, 4, j.start, t⟩ : Jb) = nextJ j 5 t) := Lib.hid (fun h => by rw [HTS.out] at h; cases h)
      clear hts hnx
      go_upto_region 17 with fail
      have HX7 : Hid (JobBox ((W.setCell ⟨w.heap.size, 6, none⟩ (.int .i64 4)).setCell ⟨w.heap.size, 8, none⟩ (.int .i64 t)) w.heap.size (⟨j.id, j.user, j.width, j.est, j.prio, j.sub, 4, j.start, t⟩ : Jb)) := ((HX.out.set6 4).set8 t)
      have HZ7 : Hid (JobBox ((W.setCell ⟨w.heap.size, 6, none⟩ (.int .i64 4)).setCell ⟨w.heap.size, 8, none⟩ (.int .i64 t)) (w.heap.size + 1) noJb) := ((HZ.out.set_other (p := ⟨w.heap.size, 6, none⟩) (by simp) (.int .i64 4)).set_other (p := ⟨w.heap.size, 8, none⟩) (by simp) (.int .i64 t))
      have HB7 : Hid (Below w.heap.size w ((W.setCell ⟨w.heap.size, 6, none⟩ (.int .i64 4)).setCell ⟨w.heap.size, 8, none⟩ (.int .i64 t))) := ((HB.out.setCell (p := ⟨w.heap.size, 6, none⟩) (Nat.le_refl _) (.int .i64 4)).setCell (p := ⟨w.heap.size, 8, none⟩) (Nat.le_refl _) (.int .i64 t))
      generalize ((W.setCell ⟨w.heap.size, 6, none⟩ (.int .i64 4)).setCell ⟨w.heap.size, 8, none⟩ (.int .i64 t)) = w7 at *
      clear HX HZ HB y y0 y1 y2 y3 y4 y5 y6 y7 y8 y9 y10 y11 y12 y13 y14 y15 y16 y17 z z0 z1 z2 z3 z4 z5 z6 z7 z8 z9 z10 z11 z12 z13 z14 z15 z16 z17
      obtain ⟨v, v0, v1, v2, v3, v4, v5, v6, v7, v8, _, _, _, _, _, _, _, _, _⟩ := HX7.out
      obtain ⟨z, z0, z1, z2, z3, z4, z5, z6, z7, z8, z9, z10, z11, z12, z13, z14, z15, z16, z17⟩ := HZ7.out
      dsimp only at v0 v1 v2 v3 v4 v5 v6 v7 v8
      go_wp2_with fail
      change bodyPost _ _ _ Exit.ret _ (storedJ w7 (w.heap.size + 1) (⟨j.id, j.user, j.width, j.est, j.prio, j.sub, 4, j.start, t⟩ : Jb))
      have HS := Lib.hid (HZ7.out.stored (⟨j.id, j.user, j.width, j.est, j.prio, j.sub, 4, j.start, t⟩ : Jb))
      have HBS := Lib.hid (below_stored HB7.out (show w.heap.size ≤ w.heap.size + 1 by omega) (⟨j.id, j.user, j.width, j.est, j.prio, j.sub, 4, j.start, t⟩ : Jb))
      generalize storedJ w7 (w.heap.size + 1) (⟨j.id, j.user, j.width, j.est, j.prio, j.sub, 4, j.start, t⟩ : Jb) = w9 at *
      clear v v0 v1 v2 v3 v4 v5 v6 v7 v8 z z0 z1 z2 z3 z4 z5 z6 z7 z8 z9 z10 z11 z12 z13 z14 z15 z16 z17
      obtain ⟨z, z0, z1, z2, z3, z4, z5, z6, z7, z8, z9, z10, z11, z12, z13, z14, z15, z16, z17⟩ := HS.out
      dsimp only at z0 z1 z2 z3 z4 z5 z6 z7 z8
      exact bodyPost_ret (v := .tuple #[jobV (⟨j.id, j.user, j.width, j.est, j.prio, j.sub, 4, j.start, t⟩ : Jb), .bool false]) (by simp [results, Try.results44, go_sem, z0, z1, z2, z3, z4, z5, z6, z7, z8, jobV, jobA]) rfl ⟨(⟨j.id, j.user, j.width, j.est, j.prio, j.sub, 4, j.start, t⟩ : Jb), by rw [HTS.out]; rfl, HNX.out, HBS.out⟩
    · have HTS : Hid (turnState j 5 = false) := by rw [hts]; show (!(j.state == 2)) = _; rw [hd]; rfl
      have HNX : Hid (turnState j 5 = false → (⟨j.id, j.user, j.width, j.est, j.prio, j.sub, 4, j.start, t⟩ : Jb) = nextJ j 5 t) := Lib.hid (fun _ => by rw [hnx (by simpa using hd)]; rfl)
      clear hts hnx
      go_upto_region 17 with fail
      have HX7 : Hid (JobBox ((W.setCell ⟨w.heap.size, 6, none⟩ (.int .i64 4)).setCell ⟨w.heap.size, 8, none⟩ (.int .i64 t)) w.heap.size (⟨j.id, j.user, j.width, j.est, j.prio, j.sub, 4, j.start, t⟩ : Jb)) := ((HX.out.set6 4).set8 t)
      have HZ7 : Hid (JobBox ((W.setCell ⟨w.heap.size, 6, none⟩ (.int .i64 4)).setCell ⟨w.heap.size, 8, none⟩ (.int .i64 t)) (w.heap.size + 1) noJb) := ((HZ.out.set_other (p := ⟨w.heap.size, 6, none⟩) (by simp) (.int .i64 4)).set_other (p := ⟨w.heap.size, 8, none⟩) (by simp) (.int .i64 t))
      have HB7 : Hid (Below w.heap.size w ((W.setCell ⟨w.heap.size, 6, none⟩ (.int .i64 4)).setCell ⟨w.heap.size, 8, none⟩ (.int .i64 t))) := ((HB.out.setCell (p := ⟨w.heap.size, 6, none⟩) (Nat.le_refl _) (.int .i64 4)).setCell (p := ⟨w.heap.size, 8, none⟩) (Nat.le_refl _) (.int .i64 t))
      generalize ((W.setCell ⟨w.heap.size, 6, none⟩ (.int .i64 4)).setCell ⟨w.heap.size, 8, none⟩ (.int .i64 t)) = w7 at *
      clear HX HZ HB y y0 y1 y2 y3 y4 y5 y6 y7 y8 y9 y10 y11 y12 y13 y14 y15 y16 y17 z z0 z1 z2 z3 z4 z5 z6 z7 z8 z9 z10 z11 z12 z13 z14 z15 z16 z17
      obtain ⟨v, v0, v1, v2, v3, v4, v5, v6, v7, v8, _, _, _, _, _, _, _, _, _⟩ := HX7.out
      obtain ⟨z, z0, z1, z2, z3, z4, z5, z6, z7, z8, z9, z10, z11, z12, z13, z14, z15, z16, z17⟩ := HZ7.out
      dsimp only at v0 v1 v2 v3 v4 v5 v6 v7 v8
      go_wp2_with fail
      change bodyPost _ _ _ Exit.ret _ (storedJ w7 (w.heap.size + 1) (⟨j.id, j.user, j.width, j.est, j.prio, j.sub, 4, j.start, t⟩ : Jb))
      have HS := Lib.hid (HZ7.out.stored (⟨j.id, j.user, j.width, j.est, j.prio, j.sub, 4, j.start, t⟩ : Jb))
      have HBS := Lib.hid (below_stored HB7.out (show w.heap.size ≤ w.heap.size + 1 by omega) (⟨j.id, j.user, j.width, j.est, j.prio, j.sub, 4, j.start, t⟩ : Jb))
      generalize storedJ w7 (w.heap.size + 1) (⟨j.id, j.user, j.width, j.est, j.prio, j.sub, 4, j.start, t⟩ : Jb) = w9 at *
      clear v v0 v1 v2 v3 v4 v5 v6 v7 v8 z z0 z1 z2 z3 z4 z5 z6 z7 z8 z9 z10 z11 z12 z13 z14 z15 z16 z17
      obtain ⟨z, z0, z1, z2, z3, z4, z5, z6, z7, z8, z9, z10, z11, z12, z13, z14, z15, z16, z17⟩ := HS.out
      dsimp only at z0 z1 z2 z3 z4 z5 z6 z7 z8
      exact bodyPost_ret (v := .tuple #[jobV (⟨j.id, j.user, j.width, j.est, j.prio, j.sub, 4, j.start, t⟩ : Jb), .bool true]) (by simp [results, Try.results44, go_sem, z0, z1, z2, z3, z4, z5, z6, z7, z8, jobV, jobA]) rfl ⟨(⟨j.id, j.user, j.width, j.est, j.prio, j.sub, 4, j.start, t⟩ : Jb), by rw [HTS.out]; rfl, HNX.out, HBS.out⟩
  · exact absurd rfl h6
end Go.Proofs.Ytjegkddpaampmaa.JobWalk
namespace Go.Proofs.Ytjegkddpaampmaa.JobWalk
open Go.RowKit Go.Proofs.Ytjegkddpaampmaa.JobPlain Go.Proofs.Ytjegkddpaampmaa.Mem Go.Proofs.Ytjegkddpaampmaa.JobMem Go.Proofs.Ytjegkddpaampmaa.JobRef
theorem ran_min (j : Jb) (t : Int) : ranL j t = if min (endJ j) t ≤ j.start then 0 else min (endJ j) t - j.start := by
  have h : (if endJ j < t then endJ j else t) = min (endJ j) t := by split <;> omega
  unfold ranL
  rw [h]
theorem ran_ways2 (j : Jb) (t : Int) : (checkN j = 1 ∧ ranJ j t = 0) ∨ (checkN j = 0 ∧ decide (t ≤ j.start) = true ∧ ranJ j t = 0) ∨
    (checkN j = 0 ∧ decide (t ≤ j.start) = false ∧ mayJ j = true ∧ (j.state == 2) = true ∧ ranJ j t = min (j.start + j.est) t - j.start) ∨
    (checkN j = 0 ∧ decide (t ≤ j.start) = false ∧ mayJ j = true ∧ (j.state == 2) = false ∧ ranJ j t = min j.fin t - j.start) := by
  unfold ranJ checkN
  cases hm : mayJ j with
  | false => exact .inl ⟨by simp, by simp⟩
  | true =>
    have hb := may_base hm
    have e1 := hb.e1
    have hs := may_state hm
    by_cases h1 : t ≤ j.start
    · refine .inr (.inl ⟨by simp, decide_eq_true h1, ?_⟩)
      rw [if_pos rfl, ran_min, if_pos (by omega)]
    · cases h2 : (j.state == 2)
      · refine .inr (.inr (.inr ⟨by simp, decide_eq_false h1, rfl, rfl, ?_⟩))
        have hne : ¬ j.state = 2 := by simpa using h2
        have he : endJ j = j.fin := by unfold endJ; rw [if_neg hne]
        rw [if_pos rfl, ran_min, he]
        have hfs : j.start ≤ j.fin := by rcases state_ways hs with ⟨a, b⟩ | ⟨a, b, c⟩ | ⟨a, b, c⟩ | ⟨a, b, c⟩ | ⟨a, b | ⟨b, c⟩⟩ <;> omega
        by_cases h3 : min j.fin t ≤ j.start
        · rw [if_pos h3]; omega
        · rw [if_neg h3]
      · refine .inr (.inr (.inl ⟨by simp, decide_eq_false h1, rfl, rfl, ?_⟩))
        have he : endJ j = j.start + j.est := by unfold endJ; rw [if_pos (by simpa using h2)]
        rw [if_pos rfl, ran_min, he, if_neg (by omega)]
theorem wordl_no {s : Int} (h : s < 0 ∨ 6 ≤ s) : wordL s = ⟨#[]⟩ := by
  unfold wordL
  rw [if_neg (by omega), if_neg (by omega), if_neg (by omega), if_neg (by omega), if_neg (by omega), if_neg (by omega)]
end Go.Proofs.Ytjegkddpaampmaa.JobWalk
namespace Go.Proofs.Ytjegkddpaampmaa.JobWalk
open Go.RowKit Go.Proofs.Ytjegkddpaampmaa.JobPlain Go.Proofs.Ytjegkddpaampmaa.Mem Go.Proofs.Ytjegkddpaampmaa.JobMem Go.Proofs.Ytjegkddpaampmaa.JobRef
theorem next_fit {j : Jb} {ev t : Int} (hf : Fit j) (ht : -9223372036854775808 ≤ t ∧ t ≤ 9223372036854775807) : Fit (nextJ j ev t) := by
  unfold nextJ Fit
  dsimp only
  refine ⟨?_, ?_, hf.2.2⟩
  · split
    · exact ht.1
    · exact hf.1
  · split
    · exact ht.2
    · exact hf.2.1
theorem check_no {j : Jb} (h : mayJ j = false) : checkN j = 1 := by unfold checkN; rw [h]; rfl
theorem check_yes {j : Jb} (h : mayJ j = true) : checkN j = 0 := by unfold checkN; rw [h]; rfl
theorem in_of {n a b : Int} (h1 : decide (n < a) = false) (h2 : decide (b < n) = false) : inB n a b = true := by
  unfold inB
  rw [decide_eq_false_iff_not] at h1 h2
  rw [decide_eq_true (by omega), decide_eq_true (by omega)]
  rfl
theorem not_in_lo {n a b : Int} (h1 : decide (n < a) = true) : inB n a b = false := by
  unfold inB
  rw [decide_eq_true_eq] at h1
  rw [decide_eq_false (by omega)]
  rfl
theorem not_in_hi {n a b : Int} (h1 : decide (b < n) = true) : inB n a b = false := by
  unfold inB
  rw [decide_eq_true_eq] at h1
  rw [decide_eq_false (p := n ≤ b) (by omega), Bool.and_false]
theorem turn_ways (j : Jb) (ev t : Int) : (checkN j = 1 ∧ turnL j ev t = (noJb, 1)) ∨ (checkN j = 0 ∧ inB ev 1 6 = false ∧ turnL j ev t = (noJb, 1)) ∨ (checkN j = 0 ∧ inB ev 1 6 = true ∧ inB t j.sub 1125899906842624 = false ∧ turnL j ev t = (noJb, 1)) ∨
    (checkN j = 0 ∧ inB ev 1 6 = true ∧ inB t j.sub 1125899906842624 = true ∧ (0 ≤ j.state ∧ decide (ev < 1) = false ∧ decide (6 < ev) = false) ∧
      ((turnState j ev = true ∧ turnL j ev t = (noJb, 5)) ∨ (turnState j ev = false ∧ checkN (nextJ j ev t) = 1 ∧ turnL j ev t = (noJb, 1)) ∨ (turnState j ev = false ∧ checkN (nextJ j ev t) = 0 ∧ turnL j ev t = (nextJ j ev t, 0)))) := by
  rcases arg_ways j ev t with ⟨a1, h⟩ | ⟨a1, a2, h⟩ | ⟨a1, a2, a3, h⟩ | ⟨a1, a2, a3, a4, h⟩ | ⟨a1, a2, a3, a4, a5, h⟩ | ⟨a1, a2, a3, a4, a5, h⟩
  · exact .inl ⟨check_no a1, h⟩
  · exact .inr (.inl ⟨check_yes a1, not_in_lo a2, h⟩)
  · exact .inr (.inl ⟨check_yes a1, not_in_hi a3, h⟩)
  · exact .inr (.inr (.inl ⟨check_yes a1, in_of a2 a3, not_in_lo a4, h⟩))
  · exact .inr (.inr (.inl ⟨check_yes a1, in_of a2 a3, not_in_hi a5, h⟩))
  · refine .inr (.inr (.inr ⟨check_yes a1, in_of a2 a3, in_of a4 a5, ⟨(may_fin a1).2.2.2.2.1, a2, a3⟩, ?_⟩))
    cases hs : turnState j ev
    · rw [hs, if_neg (by decide)] at h
      cases hm : mayJ (nextJ j ev t)
      · rw [hm, if_neg (by decide)] at h
        exact .inr (.inl ⟨rfl, check_no hm, h⟩)
      · rw [hm, if_pos rfl] at h
        exact .inr (.inr ⟨rfl, check_yes hm, h⟩)
    · rw [hs, if_pos rfl] at h
      exact .inl ⟨rfl, h⟩
set_option maxRecDepth 100000 in
set_option maxHeartbeats 6400000 in
theorem turn_any (j : Jb) (ev t : Int) (w : World) (hf : Fit j) (ht : -9223372036854775808 ≤ t ∧ t ≤ 9223372036854775807) : Calls Try.prog 27 #[jobV j, .int .i64 ev, .int .i64 t] w (TurnIs j ev t w) := by
  have CC := Lib.hid (fun W => check_any j W hf)
  have CX := Lib.hid (fun (x : Jb) (h : Fit x) W => check_any x W h)
  have CA := Lib.hid (fun W h1 h2 h0 => after_any j ev t W h1 h2 h0)
  have HF := Lib.hid (next_fit (ev := ev) hf ht)
  have HH := Lib.hid (two_jobs w j 28)
  have hw := turn_ways j ev t
  clear hf ht
  unfold AfterIs at *
  unfold jobV jobA TurnIs at *
  rcases hw with ⟨a1, hb⟩ | ⟨a1, a2, hb⟩ | ⟨a1, a2, a3, hb⟩ | ⟨a1, a2, a3, ⟨h0, h1, h2⟩, hb⟩
  all_goals
    have HBB := Lib.hid hb
    rw [a1] at CC
    clear hb a1
    try
      have CA1 := Lib.hid (fun W => CA.out W h1 h2 h0)
      clear h0 h1 h2
    clear CA
    go_enter Try.func27, Try.ntmps27
    go_upto_region 1 with fail
    generalize ((w.alloc (.cells #[.int .i64 j.id, .string j.user, .int .i64 j.width, .int .i64 j.est, .int .i64 j.prio, .int .i64 j.sub, .int .i64 j.state, .int .i64 j.start, .int .i64 j.fin] 28)).alloc (.cells #[.int .i64 0, .string ⟨#[]⟩, .int .i64 0, .int .i64 0, .int .i64 0, .int .i64 0, .int .i64 0, .int .i64 0, .int .i64 0] 28)) = W at *
    have HX := Lib.hid HH.out.1
    have HZ := Lib.hid HH.out.2.1
    have HB := Lib.hid HH.out.2.2
    obtain ⟨y, y0, y1, y2, y3, y4, y5, y6, y7, y8, _, _, _, _, _, _, _, _, _⟩ := HX.out
    clear HH
  iterate 3
    · go_upto_region 2 with (first
        | (go_at_call 24; refine (CC.out _).mono ?_; rintro e w1 ⟨rfl, hb1⟩; have HB1 := Lib.hid (HB.out.trans (hb1.mono HB.out.size)); have HX1 := Lib.hid (HX.out.below hb1); have HZ1 := Lib.hid (HZ.out.below hb1); clear hb1 y y0 y1 y2 y3 y4 y5 y6 y7 y8; obtain ⟨x, x0, x1, x2, x3, x4, x5, x6, x7, x8, _, _, _, _, _, _, _, _, _⟩ := HX1.out)
        | (go_at_call 43; refine (within_any _ _ _ _).mono ?_; rintro e w1 ⟨rfl, rfl⟩))
      clear x x0 x1 x2 x3 x4 x5 x6 x7 x8
      obtain ⟨z, z0, z1, z2, z3, z4, z5, z6, z7, z8, z9, z10, z11, z12, z13, z14, z15, z16, z17⟩ := HZ1.out
      go_wp2_with fail
      change bodyPost _ _ _ Exit.ret _ (storedJ w1 (w.heap.size + 1) noJb)
      have HS := Lib.hid (HZ1.out.stored noJb)
      have HBS := Lib.hid (below_stored HB1.out (show w.heap.size ≤ w.heap.size + 1 by omega) noJb)
      generalize storedJ w1 (w.heap.size + 1) noJb = w9 at *
      clear z z0 z1 z2 z3 z4 z5 z6 z7 z8 z9 z10 z11 z12 z13 z14 z15 z16 z17
      obtain ⟨z, z0, z1, z2, z3, z4, z5, z6, z7, z8, z9, z10, z11, z12, z13, z14, z15, z16, z17⟩ := HS.out
      exact bodyPost_ret (v := .tuple #[jobV noJb, .int .i64 1]) (by simp [results, Try.results27, go_sem, z0, z1, z2, z3, z4, z5, z6, z7, z8, jobV, jobA]) rfl ⟨by rw [HBB.out], HBS.out⟩
  have HXF := Lib.hid (fun W (x : Jb) => JobBox.new W x 28)
  have HAW := Lib.hid HBB.out
  clear HBB
  go_upto_region 3 with (first
    | (go_at_call 24; refine (CC.out _).mono ?_; rintro e w1 ⟨rfl, hb1⟩; have HB1 := Lib.hid (HB.out.trans (hb1.mono HB.out.size)); have HX1 := Lib.hid (HX.out.below hb1); have HZ1 := Lib.hid (HZ.out.below hb1); clear hb1 y y0 y1 y2 y3 y4 y5 y6 y7 y8; obtain ⟨x, x0, x1, x2, x3, x4, x5, x6, x7, x8, _, _, _, _, _, _, _, _, _⟩ := HX1.out)
    | (go_at_call 43; refine (within_any _ _ _ _).mono ?_; rintro e w1 ⟨rfl, rfl⟩))
  clear a2 a3
  rcases HAW.out with ⟨hs, hb⟩ | ⟨hs, hc, hb⟩ | ⟨hs, hc, hb⟩
  all_goals
    have HBB := Lib.hid hb
    have HTS := Lib.hid hs
    rw [hs] at CA1
    clear hb hs HAW
    go_upto_region 4 with (go_at_call 44; refine (CA1.out _).mono ?_; rintro e w2 ⟨r, rfl, hr, hb2⟩; have HR := Lib.hid hr; have HB2 := Lib.hid (HB1.out.trans (hb2.mono HB1.out.size)); have HZ2 := Lib.hid (HZ1.out.below hb2); clear hb2 hr x x0 x1 x2 x3 x4 x5 x6 x7 x8)
    have HR3 := Lib.hid (HXF.out w2 r)
    have HZ3 := Lib.hid (HZ2.out.alloc (.cells #[.int .i64 r.id, .string r.user, .int .i64 r.width, .int .i64 r.est, .int .i64 r.prio, .int .i64 r.sub, .int .i64 r.state, .int .i64 r.start, .int .i64 r.fin] 28))
    have HB3 := Lib.hid (HB2.out.alloc HB2.out.size (.cells #[.int .i64 r.id, .string r.user, .int .i64 r.width, .int .i64 r.est, .int .i64 r.prio, .int .i64 r.sub, .int .i64 r.state, .int .i64 r.start, .int .i64 r.fin] 28))
    generalize w2.alloc (.cells #[.int .i64 r.id, .string r.user, .int .i64 r.width, .int .i64 r.est, .int .i64 r.prio, .int .i64 r.sub, .int .i64 r.state, .int .i64 r.start, .int .i64 r.fin] 28) = w3 at *
  · go_upto_region 5 with fail
    obtain ⟨z, z0, z1, z2, z3, z4, z5, z6, z7, z8, z9, z10, z11, z12, z13, z14, z15, z16, z17⟩ := HZ3.out
    go_wp2_with fail
    change bodyPost _ _ _ Exit.ret _ (storedJ w3 (w.heap.size + 1) noJb)
    have HS := Lib.hid (HZ3.out.stored noJb)
    have HBS := Lib.hid (below_stored HB3.out (show w.heap.size ≤ w.heap.size + 1 by omega) noJb)
    generalize storedJ w3 (w.heap.size + 1) noJb = w9 at *
    clear z z0 z1 z2 z3 z4 z5 z6 z7 z8 z9 z10 z11 z12 z13 z14 z15 z16 z17
    obtain ⟨z, z0, z1, z2, z3, z4, z5, z6, z7, z8, z9, z10, z11, z12, z13, z14, z15, z16, z17⟩ := HS.out
    exact bodyPost_ret (v := .tuple #[jobV noJb, .int .i64 5]) (by simp [results, Try.results27, go_sem, z0, z1, z2, z3, z4, z5, z6, z7, z8, jobV, jobA]) rfl ⟨by rw [HBB.out], HBS.out⟩
  all_goals
    have CR := Lib.hid (fun W => CX.out r (by rw [HR.out (by simp)]; exact HF.out) W)
    have HCR : Hid (checkN r = checkN (nextJ j ev t)) := Lib.hid (by rw [HR.out (by simp)])
    have hcr := HCR.out.trans hc
    rw [hcr] at CR
    clear hc HCR hcr CX
    go_upto_region 6 with fail
    obtain ⟨x, x0, x1, x2, x3, x4, x5, x6, x7, x8, _, _, _, _, _, _, _, _, _⟩ := HR3.out
  · go_upto_region 7 with (go_at_call 24; refine (CR.out _).mono ?_; rintro e w4 ⟨rfl, hb4⟩; have HB4 := Lib.hid (HB3.out.trans (hb4.mono HB3.out.size)); have HZ4 := Lib.hid (HZ3.out.below hb4); clear hb4 x x0 x1 x2 x3 x4 x5 x6 x7 x8)
    obtain ⟨z, z0, z1, z2, z3, z4, z5, z6, z7, z8, z9, z10, z11, z12, z13, z14, z15, z16, z17⟩ := HZ4.out
    go_wp2_with fail
    change bodyPost _ _ _ Exit.ret _ (storedJ w4 (w.heap.size + 1) noJb)
    have HS := Lib.hid (HZ4.out.stored noJb)
    have HBS := Lib.hid (below_stored HB4.out (show w.heap.size ≤ w.heap.size + 1 by omega) noJb)
    generalize storedJ w4 (w.heap.size + 1) noJb = w9 at *
    clear z z0 z1 z2 z3 z4 z5 z6 z7 z8 z9 z10 z11 z12 z13 z14 z15 z16 z17
    obtain ⟨z, z0, z1, z2, z3, z4, z5, z6, z7, z8, z9, z10, z11, z12, z13, z14, z15, z16, z17⟩ := HS.out
    exact bodyPost_ret (v := .tuple #[jobV noJb, .int .i64 1]) (by simp [results, Try.results27, go_sem, z0, z1, z2, z3, z4, z5, z6, z7, z8, jobV, jobA]) rfl ⟨by rw [HBB.out], HBS.out⟩
  · go_upto_region 8 with (go_at_call 24; refine (CR.out _).mono ?_; rintro e w4 ⟨rfl, hb4⟩; have HB4 := Lib.hid (HB3.out.trans (hb4.mono HB3.out.size)); have HZ4 := Lib.hid (HZ3.out.below hb4); have HR4 := Lib.hid (HR3.out.below hb4); clear hb4 x x0 x1 x2 x3 x4 x5 x6 x7 x8)
    obtain ⟨x, x0, x1, x2, x3, x4, x5, x6, x7, x8, _, _, _, _, _, _, _, _, _⟩ := HR4.out
    obtain ⟨z, z0, z1, z2, z3, z4, z5, z6, z7, z8, z9, z10, z11, z12, z13, z14, z15, z16, z17⟩ := HZ4.out
    go_wp2_with fail
    change bodyPost _ _ _ Exit.ret _ (storedJ w4 (w.heap.size + 1) r)
    have HS := Lib.hid (HZ4.out.stored r)
    have HBS := Lib.hid (below_stored HB4.out (show w.heap.size ≤ w.heap.size + 1 by omega) r)
    generalize storedJ w4 (w.heap.size + 1) r = w9 at *
    clear z z0 z1 z2 z3 z4 z5 z6 z7 z8 z9 z10 z11 z12 z13 z14 z15 z16 z17 x x0 x1 x2 x3 x4 x5 x6 x7 x8
    obtain ⟨z, z0, z1, z2, z3, z4, z5, z6, z7, z8, z9, z10, z11, z12, z13, z14, z15, z16, z17⟩ := HS.out
    exact bodyPost_ret (v := .tuple #[jobV r, .int .i64 0]) (by simp [results, Try.results27, go_sem, z0, z1, z2, z3, z4, z5, z6, z7, z8, jobV, jobA]) rfl ⟨by rw [HBB.out, HR.out (by simp)], HBS.out⟩
theorem nameS (s : ByteArray) (w : World) (hL : Lays w) (hs : s.size ≤ 9223372036854775807) : Calls Try.prog 54 #[.string s] w (BoolIs (nameB s) w) := name_range s w hs
theorem checkS (j : Jb) (w : World) (hL : Lays w) (hf : Fit j) : Calls Try.prog 24 #[jobV j] w (IntB (checkN j) w) := check_any j w hf
theorem turnS (j : Jb) (ev t : Int) (w : World) (hL : Lays w) (hf : Fit j) (ht : -9223372036854775808 ≤ t ∧ t ≤ 9223372036854775807) : Calls Try.prog 27 #[jobV j, .int .i64 ev, .int .i64 t] w (TurnIs j ev t w) := turn_any j ev t w hf ht
theorem liveS (j : Jb) (w : World) (hL : Lays w) (hf : Fit j) : Calls Try.prog 38 #[jobV j] w (BoolIs (liveB j) w) := live_any j w hf
end Go.Proofs.Ytjegkddpaampmaa.JobWalk
