/-
  The walk of the statements of layer 15: what all of them end with (awake).
-/
import Derived.Test.YtonapgbokbeopaaShaWalk
namespace Go.Proofs.Ytonapgbokbeopaa.ShaWalk
open Go.RowKit Go.Proofs.Ytonapgbokbeopaa.SpanPlain Go.Proofs.Ytonapgbokbeopaa.StepPlain Go.Proofs.Ytonapgbokbeopaa.GapPlain Go.Proofs.Ytonapgbokbeopaa.JobPlain Go.Proofs.Ytonapgbokbeopaa.ShaPlain Go.Proofs.Ytonapgbokbeopaa.Mem Go.Proofs.Ytonapgbokbeopaa.SpanMem Go.Proofs.Ytonapgbokbeopaa.StepMem Go.Proofs.Ytonapgbokbeopaa.JobMem Go.Proofs.Ytonapgbokbeopaa.OrdMem Go.Proofs.Ytonapgbokbeopaa.SpanRef Go.Proofs.Ytonapgbokbeopaa.StepRef Go.Proofs.Ytonapgbokbeopaa.GapRef Go.Proofs.Ytonapgbokbeopaa.ShaRef
theorem ex_spans (w : World) (T : TypeId) : SpansIs exS (w.alloc (.cells #[.int .i64 0, .int .i64 1, .int .i64 4, .int .i64 5] T)) (.slice (some ⟨w.heap.size, 0, none⟩) 2 2) :=
  .inr ⟨_, _, rfl, Raw.alloc w #[.int .i64 0, .int .i64 1, .int .i64 4, .int .i64 5] T, Nat.le_refl _⟩
theorem ex_jobs (w : World) (T : TypeId) : JobsIs [exJ, exK] (w.alloc (.cells #[.int .i64 0, .string ⟨#[]⟩, .int .i64 3, .int .i64 9, .int .i64 0, .int .i64 0, .int .i64 0, .int .i64 0, .int .i64 0, .int .i64 0, .string ⟨#[]⟩, .int .i64 1, .int .i64 2, .int .i64 0, .int .i64 0, .int .i64 0, .int .i64 0, .int .i64 0] T)) (.slice (some ⟨w.heap.size, 0, none⟩) 2 2) :=
  .inr ⟨_, _, rfl, Raw.alloc w #[.int .i64 0, .string ⟨#[]⟩, .int .i64 3, .int .i64 9, .int .i64 0, .int .i64 0, .int .i64 0, .int .i64 0, .int .i64 0, .int .i64 0, .string ⟨#[]⟩, .int .i64 1, .int .i64 2, .int .i64 0, .int .i64 0, .int .i64 0, .int .i64 0, .int .i64 0] T, Nat.le_refl _⟩
set_option maxRecDepth 100000 in
set_option maxHeartbeats 1200000 in
theorem awake_any (w : World) : Calls Try.prog 6 #[] w (TrueIs w) := by
  have HS := Lib.hid (ex_spans w 42)
  have HB0 := Lib.hid (box_s w (.cells #[.int .i64 0, .int .i64 1, .int .i64 4, .int .i64 5] 42))
  have CF : Hid (Calls Try.prog 7 #[.slice (some ⟨w.heap.size, 0, none⟩) 2 2, .int .i64 0, .agg #[.int .i64 0, .string ⟨#[]⟩, .int .i64 3, .int .i64 9, .int .i64 0, .int .i64 0, .int .i64 0, .int .i64 0, .int .i64 0]] _ (ShSays exS 0 exJ _)) := ofShS exS 0 exJ _ _ HS.out (by decide)
  have CC := Lib.hid (fun W U (hs : SpansIs exS W (.slice (some ⟨w.heap.size, 0, none⟩) 2 2)) (hu : JobsIs [exJ, exK] W U) => chainS exS 0 [exJ, exK] _ U W hs (by decide) hu (by decide))
  go_enter Try.func6, Try.ntmps6
  go_wp2_with fail
  refine CF.out.mono ?_
  rintro e w1 ⟨a, p, b, rfl, hf, hb1⟩
  obtain ⟨rfl, rfl, rfl⟩ := ex_sh hf
  have HB1 := Lib.hid (thenS HB0.out hb1)
  have HS1 := Lib.hid (HS.out.below hb1)
  clear hf hb1 CF HS HB0
  have HJ := Lib.hid (ex_jobs w1 25)
  have HB2 := Lib.hid (thenS HB1.out (box_s w1 (.cells #[.int .i64 0, .string ⟨#[]⟩, .int .i64 3, .int .i64 9, .int .i64 0, .int .i64 0, .int .i64 0, .int .i64 0, .int .i64 0, .int .i64 0, .string ⟨#[]⟩, .int .i64 1, .int .i64 2, .int .i64 0, .int .i64 0, .int .i64 0, .int .i64 0, .int .i64 0] 25)))
  have HS2 := Lib.hid (HS1.out.below (box_s w1 (.cells #[.int .i64 0, .string ⟨#[]⟩, .int .i64 3, .int .i64 9, .int .i64 0, .int .i64 0, .int .i64 0, .int .i64 0, .int .i64 0, .int .i64 0, .string ⟨#[]⟩, .int .i64 1, .int .i64 2, .int .i64 0, .int .i64 0, .int .i64 0, .int .i64 0, .int .i64 0] 25)))
  go_wp2_with fail
  refine (CC.out _ _ HS2.out HJ.out).mono ?_
  rintro e w2 ⟨u, v, l, t, rfl, hu, hv, hcase, hb2⟩
  have HC : Hid (ChainIs exS 0 [exJ, exK] l t) := by
    rcases hcase with ⟨_, h⟩ | ⟨h, _⟩
    · exact h
    · rw [ex_chk] at h; cases h
  obtain ⟨rfl, ht⟩ := ex_chain HC.out
  have HB3 := Lib.hid (thenS HB2.out hb2)
  obtain ⟨A2, c2, rfl, hn2, hc2⟩ := hu
  obtain ⟨ad, rfl, hlt, hcell⟩ := hc2.at (show 1 < [(4 : Int), 0].length by decide)
  have hcell2 : w2.cell? (ad.add 1) = some (.int .i64 0) := hcell
  have hcell3 : w2.cell? ⟨ad.block, ad.off + 1, none⟩ = some (.int .i64 0) := by rw [← hcell2]; rfl
  clear hcell
  obtain ⟨A3, c3, rfl, _⟩ := hv.open_
  clear hcase HC hb2 CC HJ HB2 HS2 HB1 HS1 hv hc2
  rw [ht, show ([(4 : Int), 0]).length = 2 from rfl]
  go_wp2_with fail
  go_ret
  exact ⟨rfl, HB3.out⟩
end Go.Proofs.Ytonapgbokbeopaa.ShaWalk
