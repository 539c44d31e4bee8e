/-
  The frame of layer 14's statements hands over steps, jobs, a time and a look, busy times: what lies in memory.
-/
import Derived.Test.YtkaepadkdohmpaaWinLawB
import Derived.Test.YtkaepadkdohmpaaWinLawD
import Derived.Test.YtkaepadkdohmpaaReadStep
import Derived.Test.YtkaepadkdohmpaaReadBusy
import Derived.Test.YtkaepadkdohmpaaOrdRead
import Derived.Test.YtkaepadkdohmpaaApiRead
namespace Go.Proofs.Ytkaepadkdohmpaa.WinWalk
open Go.RowKit Go.Proofs.Ytkaepadkdohmpaa.SpanPlain Go.Proofs.Ytkaepadkdohmpaa.StepPlain Go.Proofs.Ytkaepadkdohmpaa.JobPlain Go.Proofs.Ytkaepadkdohmpaa.ApiPlain Go.Proofs.Ytkaepadkdohmpaa.WinPlain Go.Proofs.Ytkaepadkdohmpaa.Mem Go.Proofs.Ytkaepadkdohmpaa.SpanMem Go.Proofs.Ytkaepadkdohmpaa.StepMem Go.Proofs.Ytkaepadkdohmpaa.JobMem Go.Proofs.Ytkaepadkdohmpaa.OrdMem Go.Proofs.Ytkaepadkdohmpaa.ApiMem Go.Proofs.Ytkaepadkdohmpaa.Read
open Go.ChangeShapes Go.WideShapes Go.Deep Go.ChangeMaps
theorem cells_at : Try.prog.cellsOf 27 = 4 := by kernel_rfl
set_option maxRecDepth 100000 in
theorem at_val {H : Type} {enc : TypeId × Value → H} {W : World} {base : Nat} {v : Value} {d : DataW H} {p : List MemPlace} (hv : Value.okWide Try.prog W .any base 27 v)
    (h : DataW.Trod enc Try.prog W 0 (fun _ => true) true 27 v d p) : ∃ now x, v = atV now x ∧ -9223372036854775808 ≤ now ∧ now ≤ 9223372036854775807 := by
  obtain ⟨cs, rfl, hsz⟩ := okWide_struct Try.underlying27 hv
  obtain ⟨fuel, hf⟩ := h
  obtain ⟨y0, y1, m, hl, h0, h1⟩ := trod_s2 Try.underlying27 hf
  rw [cells_at] at hl
  obtain ⟨l⟩ := cs
  match l, hl with
  | [c0, c1, c2, c3], _ =>
    dsimp only [Value.cells] at h0 h1
    rw [cells_i] at h0
    rw [cells_lok] at h1
    obtain ⟨x0, f0, _, w0⟩ := DataW.trod_int Try.underlying3 h0
    obtain ⟨x, hx, _⟩ := lok_read h1
    simp at f0
    simp [lokC] at hx
    obtain ⟨g1, g2, g3⟩ := hx
    subst f0 g1 g2 g3
    exact ⟨x0, x, rfl, (wf_lim w0).1, (wf_lim w0).2⟩
set_option maxRecDepth 100000 in
theorem chooses_open {H : Type} {enc : TypeId × Value → H} {d0 d1 d2 : DataW H} {p0 p1 p2 : List MemPlace} (W : World) (base : Nat) (v0 v1 v2 : Value) (g0 : Value.okWide Try.prog W .any base 22 v0) (g1 : Value.okWide Try.prog W .any base 23 v1) (g2 : Value.okWide Try.prog W .any base 27 v2)
    (h0 : DataW.Trod enc Try.prog W 0 (fun _ => true) true 22 v0 d0 p0) (h1 : DataW.Trod enc Try.prog W 0 (fun _ => true) true 23 v1 d1 p1) (h2 : DataW.Trod enc Try.prog W 0 (fun _ => true) true 27 v2 d2 p2) :
    Calls Try.prog 3 #[v0, v1, v2] W (TrueW W) := by
  obtain ⟨s, hs⟩ := steps_read g0 h0
  obtain ⟨l, hl⟩ := jobs_read g1 h1
  obtain ⟨now, x, rfl, hn⟩ := at_val g2 h2
  exact chooses_any s l now x v0 v1 W hs hl hn
set_option maxRecDepth 100000 in
theorem together_open {H : Type} {enc : TypeId × Value → H} {d0 d1 d2 : DataW H} {p0 p1 p2 : List MemPlace} (W : World) (base : Nat) (v0 v1 v2 : Value) (g0 : Value.okWide Try.prog W .any base 3 v0) (g1 : Value.okWide Try.prog W .any base 48 v1) (g2 : Value.okWide Try.prog W .any base 23 v2)
    (h0 : DataW.Trod enc Try.prog W 0 (fun _ => true) true 3 v0 d0 p0) (h1 : DataW.Trod enc Try.prog W 0 (fun _ => true) true 48 v1 d1 p1) (h2 : DataW.Trod enc Try.prog W 0 (fun _ => true) true 23 v2 d2 p2) :
    Calls Try.prog 4 #[v0, v1, v2] W (TrueW W) := by
  obtain ⟨p, rfl⟩ := int_val g0 h0
  obtain ⟨b, hb⟩ := busies_read g1 h1
  obtain ⟨l, hl, hf⟩ := jobs_read_fit g2 h2
  exact windowTogether_any p b l v1 v2 W hb hl hf
end Go.Proofs.Ytkaepadkdohmpaa.WinWalk
