/-
  The walks of the statements of layer 7: what all of them end with (awake); JobTurns.
-/
import Derived.Test.YtclpbmhmfddifaaDoorJobWalk
namespace Go.Proofs.YtclpbmhmfddifaaDoor.JobWalk
open Go.RowKit Go.Proofs.YtclpbmhmfddifaaDoor.JobPlain Go.Proofs.YtclpbmhmfddifaaDoor.Mem Go.Proofs.YtclpbmhmfddifaaDoor.JobMem Go.Proofs.YtclpbmhmfddifaaDoor.JobRef
set_option maxHeartbeats 1600000 in
theorem awake7 (w : World) (hL : Lays w) : Calls Tryd.prog 6 #[] w (TrueIs w) := by
  have CT := Lib.hid (turnS exJ 3 5 w hL ex_fit ⟨by decide, by decide⟩)
  have CW := Lib.hid (fun W (h : Below w.heap.size w W) => wordS 2 W (hL.below h))
  have CR := Lib.hid (fun W (h : Below w.heap.size w W) => ranS exK 7 W (hL.below h) ex_fit2 ⟨by decide, by decide⟩)
  unfold TurnIs at CT
  rw [ex_turn] at CT
  rw [ex_word] at CW
  rw [ex_ran] at CR
  unfold jobV jobA exJ exK at CT
  unfold jobV jobA exK at CR
  dsimp only at CT CR
  go_enter Tryd.func6, Tryd.ntmps6
  go_wp2_with fail
  refine CT.out.mono ?_
  rintro e w1 ⟨rfl, hb1⟩
  have HX := Lib.hid (JobBox.new w1 exK 23)
  unfold exK at HX
  dsimp only at HX
  have HB := Lib.hid (hb1.alloc hb1.size (.cells #[.int .i64 1, .string ⟨#[97, 110, 110]⟩, .int .i64 2, .int .i64 9, .int .i64 0, .int .i64 0, .int .i64 2, .int .i64 5, .int .i64 0] 23))
  clear hb1 CT
  go_upto_region 2 with fail
  generalize w1.alloc (.cells #[.int .i64 1, .string ⟨#[97, 110, 110]⟩, .int .i64 2, .int .i64 9, .int .i64 0, .int .i64 0, .int .i64 2, .int .i64 5, .int .i64 0] 23) = w2 at *
  obtain ⟨y, y0, y1, y2, y3, y4, y5, y6, y7, y8, _, _, _, _, _, _, _, _, _⟩ := HX.out
  dsimp only at y0 y1 y2 y3 y4 y5 y6 y7 y8
  go_wp2_with fail
  refine (CW.out _ HB.out).mono ?_
  rintro e w3 ⟨rfl, hb3⟩
  have HB3 := Lib.hid (below_then HB.out hb3)
  have HX3 := Lib.hid (HX.out.below hb3)
  clear hb3 CW HX HB y y0 y1 y2 y3 y4 y5 y6 y7 y8
  obtain ⟨y, y0, y1, y2, y3, y4, y5, y6, y7, y8, _, _, _, _, _, _, _, _, _⟩ := HX3.out
  dsimp only at y0 y1 y2 y3 y4 y5 y6 y7 y8
  go_wp2_with fail
  refine (CR.out _ HB3.out).mono ?_
  rintro e w4 ⟨rfl, hb4⟩
  have HB4 := Lib.hid (below_then HB3.out hb4)
  clear hb4 CR
  go_wp2_with fail
  go_ret
  exact ⟨rfl, HB4.out⟩
end Go.Proofs.YtclpbmhmfddifaaDoor.JobWalk
