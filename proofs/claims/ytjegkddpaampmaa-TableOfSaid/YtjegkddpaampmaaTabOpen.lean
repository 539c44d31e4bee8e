/-
  The frame of layer 11's statements hands over acts, jobs, a job, integers: what lies in memory.
-/
import Derived.Test.YtjegkddpaampmaaTabLawC
import Derived.Test.YtjegkddpaampmaaTabLawD
import Derived.Test.YtjegkddpaampmaaTabLawE
import Derived.Test.YtjegkddpaampmaaOrdRead
namespace Go.Proofs.Ytjegkddpaampmaa.TabWalk
open Go.RowKit Go.Proofs.Ytjegkddpaampmaa.JobPlain Go.Proofs.Ytjegkddpaampmaa.OrdPlain Go.Proofs.Ytjegkddpaampmaa.TabPlain Go.Proofs.Ytjegkddpaampmaa.Mem Go.Proofs.Ytjegkddpaampmaa.JobMem Go.Proofs.Ytjegkddpaampmaa.OrdMem Go.Proofs.Ytjegkddpaampmaa.Read
open Go.ChangeShapes Go.WideShapes Go.Deep
set_option maxRecDepth 100000 in
theorem acts_open {H : Type} {enc : TypeId × Value → H} {d0 d1 : DataW H} {p0 p1 : List MemPlace} (W : World) (base : Nat) (v0 v1 : Value) (g0 : Value.okWide Try.prog W .any base 22 v0) (g1 : Value.okWide Try.prog W .any base 3 v1)
    (h0 : DataW.Trod enc Try.prog W 0 (fun _ => true) true 22 v0 d0 p0) (h1 : DataW.Trod enc Try.prog W 0 (fun _ => true) true 3 v1 d1 p1) :
    Calls Try.prog 3 #[v0, v1] W (TrueIs W) := by
  obtain ⟨l, hl, hf⟩ := acts_read g0 h0
  obtain ⟨s, rfl⟩ := int_val g1 h1
  exact acts_any l s v0 W hl hf
theorem u8_val {H : Type} {enc : TypeId × Value → H} {W : World} {base : Nat} {v : Value} {d : DataW H} {p : List MemPlace} (hv : Value.okWide Try.prog W .any base 5 v)
    (h : DataW.Trod enc Try.prog W 0 (fun _ => true) true 5 v d p) : ∃ n : Nat, v = .int .u8 (n : Int) ∧ n ≤ 255 := by
  obtain ⟨n, rfl, _, _, hw⟩ := open_int Try.underlying5 hv h
  simp only [Lit.wf, Bool.and_eq_true, decide_eq_true_eq] at hw
  have h1 : 0 ≤ n ∧ n ≤ 255 := hw
  exact ⟨n.toNat, by rw [Int.toNat_of_nonneg h1.1], by omega⟩
set_option maxRecDepth 100000 in
theorem full_open {H : Type} {enc : TypeId × Value → H} {d0 d1 : DataW H} {p0 p1 : List MemPlace} (W : World) (base : Nat) (v0 v1 : Value) (g0 : Value.okWide Try.prog W .any base 5 v0) (g1 : Value.okWide Try.prog W .any base 28 v1)
    (h0 : DataW.Trod enc Try.prog W 0 (fun _ => true) true 5 v0 d0 p0) (h1 : DataW.Trod enc Try.prog W 0 (fun _ => true) true 28 v1 d1 p1) :
    Calls Try.prog 4 #[v0, v1] W (TrueIs W) := by
  obtain ⟨n, rfl, hn⟩ := u8_val g0 h0
  obtain ⟨j, rfl, hf⟩ := job_val g1 h1
  exact full_any n j W hn hf
set_option maxRecDepth 100000 in
theorem of_open {H : Type} {enc : TypeId × Value → H} {d0 d1 : DataW H} {p0 p1 : List MemPlace} (W : World) (base : Nat) (v0 v1 : Value) (g0 : Value.okWide Try.prog W .any base 26 v0) (g1 : Value.okWide Try.prog W .any base 22 v1)
    (h0 : DataW.Trod enc Try.prog W 0 (fun _ => true) true 26 v0 d0 p0) (h1 : DataW.Trod enc Try.prog W 0 (fun _ => true) true 22 v1 d1 p1) :
    Calls Try.prog 5 #[v0, v1] W (TrueIs W) := by
  obtain ⟨js, hj, hf⟩ := jobs_read_fit g0 h0
  obtain ⟨l, hl, hg⟩ := acts_read g1 h1
  exact of_any js l v0 v1 W hj hf hl hg
end Go.Proofs.Ytjegkddpaampmaa.TabWalk
