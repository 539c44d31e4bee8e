/-
  The walks of the statements of layer 14: what all of them end with (awake).
-/
import Derived.Test.YtkaepadkdohmpaaWinWalk
namespace Go.Proofs.Ytkaepadkdohmpaa.WinWalk
open Go.RowKit Go.Proofs.Ytkaepadkdohmpaa.SpanPlain Go.Proofs.Ytkaepadkdohmpaa.StepPlain Go.Proofs.Ytkaepadkdohmpaa.GapPlain Go.Proofs.Ytkaepadkdohmpaa.JobPlain Go.Proofs.Ytkaepadkdohmpaa.OrdPlain Go.Proofs.Ytkaepadkdohmpaa.SubPlain Go.Proofs.Ytkaepadkdohmpaa.ApiPlain Go.Proofs.Ytkaepadkdohmpaa.TwnPlain Go.Proofs.Ytkaepadkdohmpaa.WinPlain Go.Proofs.Ytkaepadkdohmpaa.Mem Go.Proofs.Ytkaepadkdohmpaa.SpanMem Go.Proofs.Ytkaepadkdohmpaa.JobMem Go.Proofs.Ytkaepadkdohmpaa.OrdMem Go.Proofs.Ytkaepadkdohmpaa.ApiMem
theorem ex_steps (w : World) (T : TypeId) : SpansIs exS (w.alloc (.cells #[.int .i64 0, .int .i64 3, .int .i64 9, .int .i64 8] T)) (.slice (some ⟨w.heap.size, 0, none⟩) 2 2) :=
  .inr ⟨_, _, rfl, Raw.alloc w #[.int .i64 0, .int .i64 3, .int .i64 9, .int .i64 8] T, Nat.le_refl _⟩
theorem ex_jobs (w : World) (T : TypeId) : JobsIs exJ (w.alloc (.cells #[.int .i64 4, .string ⟨#[]⟩, .int .i64 3, .int .i64 20, .int .i64 0, .int .i64 0, .int .i64 0, .int .i64 0, .int .i64 0, .int .i64 5, .string ⟨#[]⟩, .int .i64 2, .int .i64 5, .int .i64 0, .int .i64 0, .int .i64 0, .int .i64 0, .int .i64 0] T)) (.slice (some ⟨w.heap.size, 0, none⟩) 2 2) :=
  .inr ⟨_, _, rfl, Raw.alloc w #[.int .i64 4, .string ⟨#[]⟩, .int .i64 3, .int .i64 20, .int .i64 0, .int .i64 0, .int .i64 0, .int .i64 0, .int .i64 0, .int .i64 5, .string ⟨#[]⟩, .int .i64 2, .int .i64 5, .int .i64 0, .int .i64 0, .int .i64 0, .int .i64 0, .int .i64 0] T, Nat.le_refl _⟩
set_option maxRecDepth 100000 in
set_option maxHeartbeats 3200000 in
theorem awake14 (w : World) : Calls Try.prog 5 #[] w (TrueW w) := by
  have HS := Lib.hid (fun W => ex_steps W 35)
  have HJ := Lib.hid (fun W => ex_jobs W 39)
  have HB1 := Lib.hid (fun (W : World) => below_box W (.cells #[.int .i64 0, .int .i64 3, .int .i64 9, .int .i64 8] 35))
  have HB2 := Lib.hid (fun (W : World) => below_box W (.cells #[.int .i64 4, .string ⟨#[]⟩, .int .i64 3, .int .i64 20, .int .i64 0, .int .i64 0, .int .i64 0, .int .i64 0, .int .i64 0, .int .i64 5, .string ⟨#[]⟩, .int .i64 2, .int .i64 5, .int .i64 0, .int .i64 0, .int .i64 0, .int .i64 0, .int .i64 0] 39))
  go_enter Try.func5, Try.ntmps5
  go_upto_region 2 with fail
  have HS1 := Lib.hid (HS.out w)
  have HBa := Lib.hid (HB1.out w)
  generalize w.alloc (.cells #[.int .i64 0, .int .i64 3, .int .i64 9, .int .i64 8] 35) = W1 at *
  have HS2 := Lib.hid (HS1.out.below (HB2.out W1))
  have HJ2 := Lib.hid (HJ.out W1)
  have HBb := Lib.hid (below_then HBa.out (HB2.out W1))
  have C := Lib.hid (chooseS exS 0 exJ exX _ _ _ HS2.out (by decide) HJ2.out (by decide) (by decide))
  unfold lokV exX at C
  dsimp only at C
  clear HS HJ HB1 HB2
  go_wp2_with fail
  refine C.out.mono ?_
  rintro e w2 ⟨u, rfl, hi, hb⟩
  have HB3 := Lib.hid (below_then HBb.out hb)
  rw [show (⟨5, 9, 2⟩ : Lok) = exX from rfl, ex_ids] at hi
  have he := ex_err
  rw [show (⟨5, 9, 2⟩ : Lok) = exX from rfl, ex_err]
  obtain ⟨A, c, rfl, hc, hA⟩ := hi
  obtain ⟨a, rfl, hlt, hcell⟩ := hA.at (i := 0) (by decide)
  have hc0 : w2.cell? a = some (.int .i64 5) := by
    have h0 : a.add 0 = a := by unfold Addr.add; simp
    rw [h0] at hcell
    exact hcell
  clear hb C he hcell hA
  go_wp2_with fail
  go_ret
  exact ⟨rfl, HB3.out⟩
end Go.Proofs.Ytkaepadkdohmpaa.WinWalk
