/-
  Acts of layer 11's statements, as plain things, in memory, and as an argument that is read: what is done, a job, three integers.
-/
import Derived.Test.YtjegkddpaampmaaTabSay
import Derived.Test.YtjegkddpaampmaaLayRead
import Derived.Test.YtjegkddpaampmaaApiRead
import Derived.Test.YtjegkddpaampmaaJobRead
namespace Go.Proofs.Ytjegkddpaampmaa.TabWalk
open Go.RowKit Go.Proofs.Ytjegkddpaampmaa.JobPlain Go.Proofs.Ytjegkddpaampmaa.OrdPlain Go.Proofs.Ytjegkddpaampmaa.TabPlain Go.Proofs.Ytjegkddpaampmaa.Mem Go.Proofs.Ytjegkddpaampmaa.JobMem Go.Proofs.Ytjegkddpaampmaa.OrdMem Go.Proofs.Ytjegkddpaampmaa.Read
open Go.ChangeShapes Go.WideShapes Go.Deep Go.ChangeMaps
/-- An act. -/
structure Ac where
  what : Int
  j : Jb
  a : Int
  b : Int
  c : Int
def noAc : Ac := ⟨0, noJb, 0, 0, 0⟩
def acC (x : Ac) : List Value := [.int .i64 x.what, .int .i64 x.j.id, .string x.j.user, .int .i64 x.j.width, .int .i64 x.j.est, .int .i64 x.j.prio, .int .i64 x.j.sub, .int .i64 x.j.state, .int .i64 x.j.start, .int .i64 x.j.fin, .int .i64 x.a, .int .i64 x.b, .int .i64 x.c]
theorem acC_cell (x : Ac) : ∀ u ∈ acC x, u.oneCell' = true := by
  intro u hu
  simp [acC] at hu
  rcases hu with rfl | rfl | rfl | rfl | rfl | rfl | rfl | rfl | rfl | rfl | rfl | rfl | rfl <;> rfl
def acL : Lay Ac := ⟨13, acC, fun _ => rfl, acC_cell, by decide⟩
structure AcFit (x : Ac) : Prop where
  j : Fit x.j
  a : -9223372036854775808 ≤ x.a ∧ x.a ≤ 9223372036854775807
  b : -9223372036854775808 ≤ x.b ∧ x.b ≤ 9223372036854775807
  c : -9223372036854775808 ≤ x.c ∧ x.c ≤ 9223372036854775807
/-- An act's cells from a place on. -/
structure AcAt (w : World) (p : Addr) (x : Ac) : Prop where
  lt : p.block < w.heap.size
  c0 : w.cell? p = some (.int .i64 x.what)
  c1 : w.cell? ⟨p.block, p.off + 1, none⟩ = some (.int .i64 x.j.id)
  c2 : w.cell? ⟨p.block, p.off + 2, none⟩ = some (.string x.j.user)
  c3 : w.cell? ⟨p.block, p.off + 3, none⟩ = some (.int .i64 x.j.width)
  c4 : w.cell? ⟨p.block, p.off + 4, none⟩ = some (.int .i64 x.j.est)
  c5 : w.cell? ⟨p.block, p.off + 5, none⟩ = some (.int .i64 x.j.prio)
  c6 : w.cell? ⟨p.block, p.off + 6, none⟩ = some (.int .i64 x.j.sub)
  c7 : w.cell? ⟨p.block, p.off + 7, none⟩ = some (.int .i64 x.j.state)
  c8 : w.cell? ⟨p.block, p.off + 8, none⟩ = some (.int .i64 x.j.start)
  c9 : w.cell? ⟨p.block, p.off + 9, none⟩ = some (.int .i64 x.j.fin)
  c10 : w.cell? ⟨p.block, p.off + 10, none⟩ = some (.int .i64 x.a)
  c11 : w.cell? ⟨p.block, p.off + 11, none⟩ = some (.int .i64 x.b)
  c12 : w.cell? ⟨p.block, p.off + 12, none⟩ = some (.int .i64 x.c)
theorem AcAt.of {w : World} {p : Addr} {x : Ac} (h : acL.At w p x) : AcAt w p x :=
  ⟨h.lt, h.c0 _ rfl, h.c 1 _ (by decide) rfl, h.c 2 _ (by decide) rfl, h.c 3 _ (by decide) rfl, h.c 4 _ (by decide) rfl, h.c 5 _ (by decide) rfl, h.c 6 _ (by decide) rfl, h.c 7 _ (by decide) rfl, h.c 8 _ (by decide) rfl, h.c 9 _ (by decide) rfl, h.c 10 _ (by decide) rfl, h.c 11 _ (by decide) rfl, h.c 12 _ (by decide) rfl⟩
def nthA (l : List Ac) (k : Nat) : Ac := l.getD k noAc
theorem nthA_at {l : List Ac} {k : Nat} (h : k < l.length) : nthA l k = l[k] := by unfold nthA; simp [List.getD, h]
theorem acs_open {l : List Ac} {w : World} {v : Value} (h : acL.Is l w v) : ∃ A c, v = .slice A l.length c ∧ l.length ≤ c ∧ ∀ W, Below w.heap.size w W → ∀ i, i < l.length → ∃ a, A = some a ∧ AcAt W (a.add (i * 13)) (nthA l i) := by
  obtain ⟨A, c, e, hn, hat⟩ := h.open_
  exact ⟨A, c, e, hn, fun W hb i hi => by
    obtain ⟨a, ea, h1⟩ := hat i hi
    exact ⟨a, ea, by rw [nthA_at hi]; exact AcAt.of (h1.below hb)⟩⟩
theorem cells_act : Try.prog.cellsOf 31 = 13 := by kernel_rfl
theorem cells_three : Try.prog.cellsOf 29 = 3 := by kernel_rfl
set_option maxRecDepth 100000 in
theorem three_read {H : Type} {enc : TypeId × Value → H} {W : World} {sp : Nat → Bool} {base n : Nat} {cs : List Value} {y : DataW H × List MemPlace} (h : DataW.trod enc Try.prog W base sp true n 29 cs = some y) :
    ∃ a b c : Int, cs = [.int .i64 a, .int .i64 b, .int .i64 c] ∧ (-9223372036854775808 ≤ a ∧ a ≤ 9223372036854775807) ∧ (-9223372036854775808 ≤ b ∧ b ≤ 9223372036854775807) ∧ -9223372036854775808 ≤ c ∧ c ≤ 9223372036854775807 := by
  obtain ⟨xs, m, _, _, hl, hlen, hel⟩ := DataW.trod_array Try.underlying29 h
  rw [cells_three] at hl
  match cs, hl, xs, hlen with
  | [c0, c1, c2], _, [y0, y1, y2], _ =>
    have e0 := hel 0 (by omega)
    have e1 := hel 1 (by omega)
    have e2 := hel 2 (by omega)
    rw [cells_i] at e0 e1 e2
    obtain ⟨x0, f0, _, w0⟩ := DataW.trod_int Try.underlying3 e0
    obtain ⟨x1, f1, _, w1⟩ := DataW.trod_int Try.underlying3 e1
    obtain ⟨x2, f2, _, w2⟩ := DataW.trod_int Try.underlying3 e2
    simp at f0 f1 f2
    subst f0 f1 f2
    exact ⟨x0, x1, x2, rfl, wf_lim w0, wf_lim w1, wf_lim w2⟩
set_option maxRecDepth 100000 in
theorem act_read {H : Type} {enc : TypeId × Value → H} {W : World} {sp : Nat → Bool} {base n : Nat} {cs : List Value} {y : DataW H × List MemPlace} (h : DataW.trod enc Try.prog W base sp true n 31 cs = some y) : ∃ x : Ac, cs = acC x ∧ AcFit x := by
  obtain ⟨y0, y1, y2, m, hl, h0, h1, h2⟩ := trod_s3 Try.underlying31 h
  rw [cells_act] at hl
  match cs, hl with
  | [c0, c1, c2, c3, c4, c5, c6, c7, c8, c9, c10, c11, c12], _ =>
    dsimp only at h0 h1 h2
    rw [cells_i] at h0
    rw [cells_job] at h1
    rw [cells_three] at h2
    obtain ⟨x0, f0, _, _⟩ := DataW.trod_int Try.underlying3 h0
    obtain ⟨j, f1, hj⟩ := job_read h1
    obtain ⟨a, b, c, f2, ha, hb, hc⟩ := three_read h2
    simp [jobA] at f0 f1 f2
    obtain ⟨rfl, rfl, rfl, rfl, rfl, rfl, rfl, rfl, rfl⟩ := f1
    obtain ⟨rfl, rfl, rfl⟩ := f2
    subst f0
    exact ⟨⟨x0, j, a, b, c⟩, rfl, hj, ha, hb, hc⟩
set_option maxRecDepth 100000 in
theorem acts_read {H : Type} {enc : TypeId × Value → H} {W : World} {base : Nat} {v : Value} {d : DataW H} {p : List MemPlace} (hv : Value.okWide Try.prog W .any base 22 v)
    (h : DataW.Trod enc Try.prog W 0 (fun _ => true) true 22 v d p) : ∃ l, acL.Is l W v ∧ ∀ x ∈ l, AcFit x :=
  lay_read acL Try.underlying22 cells_act (fun h => act_read h) hv h
end Go.Proofs.Ytjegkddpaampmaa.TabWalk
