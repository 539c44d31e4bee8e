/-
  The frame of layer 5's statements hands over integers, a span, busy times, slices of busy times and of acts: what lies in memory.
-/
import Derived.Test.YtjkninldenoanaaProfLawC
import Derived.Test.YtjkninldenoanaaProfLawE
import Derived.Test.YtjkninldenoanaaReadSpan
import Derived.Test.YtjkninldenoanaaReadBusy
import Derived.Test.YtjkninldenoanaaReadArr3
namespace Go.Proofs.Ytjkninldenoanaa.ProfWalk
open Go.RowKit Go.Proofs.Ytjkninldenoanaa.SpanPlain Go.Proofs.Ytjkninldenoanaa.StepPlain Go.Proofs.Ytjkninldenoanaa.ProfPlain Go.Proofs.Ytjkninldenoanaa.Mem Go.Proofs.Ytjkninldenoanaa.SpanMem Go.Proofs.Ytjkninldenoanaa.StepMem Go.Proofs.Ytjkninldenoanaa.SpanRef Go.Proofs.Ytjkninldenoanaa.Read
open Go.ChangeShapes Go.WideShapes Go.Deep

def acCells (a : Ac) : List Value := [.int .i64 a.1, .int .i64 a.2.1.1, .int .i64 a.2.1.2.1, .int .i64 a.2.1.2.2, .int .i64 a.2.2]
theorem cells_act : Try.prog.cellsOf 38 = 5 := by kernel_rfl
set_option maxRecDepth 100000 in
theorem act_read {H : Type} {enc : TypeId × Value → H} {W : World} {sp : Nat → Bool} {base n : Nat} {cs : List Value} {y : DataW H × List MemPlace} (h : DataW.trod enc Try.prog W base sp true n 38 cs = some y) : ∃ a : Ac, cs = acCells a := by
  obtain ⟨y0, y1, y2, n', _, hl, h0, h1, h2⟩ := trod_struct3 Try.underlying38 h
  rw [cells_act] at hl
  match cs, hl with
  | [c0, c1, c2, c3, c4], _ =>
    dsimp only at h0 h1 h2
    simp only [cells_int1, cells_busy] at h0 h1 h2
    obtain ⟨x0, f0, _, _⟩ := DataW.trod_int Try.underlying3 h0
    obtain ⟨b, f1⟩ := busy_read h1
    obtain ⟨x2, f2, _, _⟩ := DataW.trod_int Try.underlying3 h2
    simp [byCells] at f0 f1 f2
    obtain ⟨g1, g2, g3⟩ := f1
    subst f0 g1 g2 g3 f2
    exact ⟨(x0, b, x2), rfl⟩
theorem add_fld (a : Addr) (i j : Nat) (hj : 0 < j) : a.add (i + j) = ⟨(a.add i).block, (a.add i).off + j, none⟩ := by
  unfold Addr.add
  by_cases h0 : i = 0
  · subst h0
    have : ¬ (0 + j = 0) := by omega
    simp [this]
    omega
  · have : ¬ (i + j = 0) := by omega
    simp [h0, this, Nat.add_assoc]
set_option maxRecDepth 100000 in
theorem acts_read {H : Type} {enc : TypeId × Value → H} {W : World} {base : Nat} {v : Value} {d : DataW H} {p : List MemPlace} (hv : Value.okWide Try.prog W .any base 23 v)
    (h : DataW.Trod enc Try.prog W 0 (fun _ => true) true 23 v d p) : ∃ (A : Option Addr) (l : List Ac) (c : Nat), v = .slice A l.length c ∧ Fives W A l := by
  obtain ⟨A, len, cap, rfl⟩ := okWide_slice Try.underlying23 hv
  obtain ⟨fuel, hf⟩ := h
  rcases open_slice Try.underlying23 hf with ⟨h0, _⟩ | ⟨a, ln, cp, m, n, D, Pl, hcs, _, hl, hm, hmm, _, hi⟩
  · refine ⟨none, [], 0, ?_, fun i hi => absurd hi (Nat.not_lt_zero _)⟩
    simpa [Value.cells] using h0
  · simp [Value.cells] at hcs
    obtain ⟨rfl, rfl, rfl⟩ := hcs
    obtain ⟨l, hl', hp⟩ := list_of (P := fun i (b : Ac) => a.block < W.heap.size ∧ W.cell? (a.add (i * 5)) = some (.int .i64 b.1) ∧ W.cell? (a.add (i * 5 + 1)) = some (.int .i64 b.2.1.1) ∧ W.cell? (a.add (i * 5 + 2)) = some (.int .i64 b.2.1.2.1) ∧
        W.cell? (a.add (i * 5 + 3)) = some (.int .i64 b.2.1.2.2) ∧ W.cell? (a.add (i * 5 + 4)) = some (.int .i64 b.2.2)) len (fun i hi' => by
      obtain ⟨cs', hc, ht⟩ := hi i (by rw [hmm]; simp; omega)
      rw [cells_act] at hc
      obtain ⟨b, rfl⟩ := act_read ht
      obtain ⟨_, _, hat⟩ := World.cells?_some hc
      have h0 := hat 0 (by omega)
      have h1 := hat 1 (by omega)
      have h2 := hat 2 (by omega)
      have h3 := hat 3 (by omega)
      have h4 := hat 4 (by omega)
      rw [Mem.add_add] at h0 h1 h2 h3 h4
      have e0 : W.cell? (a.add (i * 5)) = some (.int .i64 b.1) := h0
      have lt := World.block_lt_of_cell? _ _ e0
      rw [add_block] at lt
      exact ⟨b, lt, e0, h1, h2, h3, h4⟩)
    subst hl'
    refine ⟨some a, l, cap, rfl, fun i hi => ?_⟩
    obtain ⟨g0, g1, g2, g3, g4, g5⟩ := hp i _ (show l[i]? = some (acCell l i) by unfold acCell; simp [List.getD, hi])
    rw [add_fld _ _ _ (by omega)] at g2 g3 g4 g5
    exact ⟨a, rfl, g0, g1, g2, g3, g4, g5⟩

set_option maxRecDepth 100000 in
theorem acts_open {H : Type} {enc : TypeId × Value → H} {d0 d1 d2 : DataW H} {p0 p1 p2 : List MemPlace} (W : World) (base : Nat) (v0 v1 v2 : Value) (g0 : Value.okWide Try.prog W .any base 22 v0) (g1 : Value.okWide Try.prog W .any base 23 v1) (g2 : Value.okWide Try.prog W .any base 25 v2)
    (h0 : DataW.Trod enc Try.prog W 0 (fun _ => true) true 22 v0 d0 p0) (h1 : DataW.Trod enc Try.prog W 0 (fun _ => true) true 23 v1 d1 p1) (h2 : DataW.Trod enc Try.prog W 0 (fun _ => true) true 25 v2 d2 p2) :
    Calls Try.prog 3 #[v0, v1, v2] W (TrueIs W) := by
  obtain ⟨a, b, c, rfl⟩ := arr_val g0 h0
  obtain ⟨A, l, k, rfl, hl⟩ := acts_read g1 h1
  obtain ⟨s, rfl⟩ := span_val g2 h2
  exact acts_any a b c l s A k W hl
set_option maxRecDepth 100000 in
theorem back_open {H : Type} {enc : TypeId × Value → H} {d0 d1 d2 : DataW H} {p0 p1 p2 : List MemPlace} (W : World) (base : Nat) (v0 v1 v2 : Value) (g0 : Value.okWide Try.prog W .any base 3 v0) (g1 : Value.okWide Try.prog W .any base 31 v1) (g2 : Value.okWide Try.prog W .any base 36 v2)
    (h0 : DataW.Trod enc Try.prog W 0 (fun _ => true) true 3 v0 d0 p0) (h1 : DataW.Trod enc Try.prog W 0 (fun _ => true) true 31 v1 d1 p1) (h2 : DataW.Trod enc Try.prog W 0 (fun _ => true) true 36 v2 d2 p2) :
    Calls Try.prog 4 #[v0, v1, v2] W (TrueIs W) := by
  obtain ⟨p, rfl⟩ := int_val g0 h0
  obtain ⟨l, hl⟩ := busies_read g1 h1
  obtain ⟨b, rfl⟩ := busy_val g2 h2
  exact back_any p l b _ W hl
end Go.Proofs.Ytjkninldenoanaa.ProfWalk
