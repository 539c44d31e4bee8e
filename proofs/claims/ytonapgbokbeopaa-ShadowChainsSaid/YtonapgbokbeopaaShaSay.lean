/-
  What layer 15's functions answer: the posts that the law texts name; the example of the statements.
-/
import Derived.Test.YtonapgbokbeopaaShaRefB
import Derived.Test.YtonapgbokbeopaaStepRef0
namespace Go.Proofs.Ytonapgbokbeopaa.ShaWalk
open Go.RowKit Go.Proofs.Ytonapgbokbeopaa.SpanPlain Go.Proofs.Ytonapgbokbeopaa.StepPlain Go.Proofs.Ytonapgbokbeopaa.GapPlain Go.Proofs.Ytonapgbokbeopaa.JobPlain Go.Proofs.Ytonapgbokbeopaa.ShaPlain Go.Proofs.Ytonapgbokbeopaa.Mem Go.Proofs.Ytonapgbokbeopaa.SpanMem Go.Proofs.Ytonapgbokbeopaa.StepMem Go.Proofs.Ytonapgbokbeopaa.JobMem Go.Proofs.Ytonapgbokbeopaa.OrdMem Go.Proofs.Ytonapgbokbeopaa.SpanRef Go.Proofs.Ytonapgbokbeopaa.StepRef Go.Proofs.Ytonapgbokbeopaa.GapRef Go.Proofs.Ytonapgbokbeopaa.ShaRef
def TrueIs (w : World) (e : Ending) (w' : World) : Prop := e = .returned (.bool true) ∧ Below w.heap.size w w'
def ShSays (s : List Sp) (now : Int) (j : Jb) (w : World) (e : Ending) (w' : World) : Prop := ∃ a p b, e = .returned (.tuple #[.int .i64 a, .int .i64 p, .bool b]) ∧ ShIs s now j a p b ∧ Below w.heap.size w w'
def LaySays (s : List Sp) (a : Int) (j : Jb) (w : World) (e : Ending) (w' : World) : Prop := ∃ v r b, e = .returned (.tuple #[v, .bool b]) ∧ SpansIs r w' v ∧ LayIs s a j r b ∧ Below w.heap.size w w'
def LiftSays (s : List Sp) (a : Int) (j : Jb) (w : World) (e : Ending) (w' : World) : Prop := ∃ v r b, e = .returned (.tuple #[v, .bool b]) ∧ SpansIs r w' v ∧ LiftIs s a j r b ∧ Below w.heap.size w w'
def ChainSays (s : List Sp) (now : Int) (js : List Jb) (w : World) (e : Ending) (w' : World) : Prop := ∃ u v l t, e = .returned (.tuple #[u, v]) ∧ IntsAt l w' u ∧ SpansIs t w' v ∧ ((chkB s = true ∧ ChainIs s now js l t) ∨ (chkB s = false ∧ l = [] ∧ t = [])) ∧ Below w.heap.size w w'
def exS : List Sp := [(0, 1), (4, 5)]
def exJ : Jb := ⟨0, ⟨#[]⟩, 3, 9, 0, 0, 0, 0, 0⟩
def exK : Jb := ⟨0, ⟨#[]⟩, 1, 2, 0, 0, 0, 0, 0⟩
def exT : List Sp := [(0, 1), (4, 2), (13, 5)]
theorem ex_chk : chkB exS = true := by decide
theorem ex_fit {a : Int} {b : Bool} (h : FitIs exS 0 exJ.width exJ.est a b) : a = 4 ∧ b = true := by
  have h1 := (fit_spec (s := exS) (f := 0) (w := exJ.width) (n := exJ.est) (by decide)).1 (by decide)
  obtain ⟨h2, h3⟩ := h.unique h1
  exact ⟨h2.trans (by decide), h3⟩
theorem ex_sh {a p : Int} {b : Bool} (h : ShIs exS 0 exJ a p b) : a = 4 ∧ p = 2 ∧ b = true := by
  obtain ⟨h1, h2⟩ := h
  obtain ⟨rfl, rfl⟩ := ex_fit h1
  exact ⟨rfl, h2.trans (by decide), rfl⟩
theorem ex_lay {r : List Sp} (h : AddIs exS (runS 4 exJ) (-exJ.width) r) : r = exT := by
  have hok : okG exS 4 exJ.width exJ.est = true := by decide
  obtain ⟨_, _, _, _, _, _, _, hnb, _⟩ := room_may hok
  exact (AddIs.unique h (add_done hnb (by decide))).trans (by decide)
theorem ex_chain {l : List Int} {t : List Sp} (h : ChainIs exS 0 [exJ, exK] l t) : l = [4, 0] ∧ t.length = 4 := by
  obtain ⟨a, b, l', s', e1, f1, u1, c1⟩ := h
  obtain ⟨rfl, rfl⟩ := ex_fit f1
  rcases u1 with ⟨_, u1⟩ | ⟨u1, _⟩
  · obtain rfl := ex_lay u1
    obtain ⟨a2, b2, l2, s2, e2, f2, u2, c2⟩ := c1
    have h1 := (fit_spec (s := exT) (f := 0) (w := exK.width) (n := exK.est) (by decide)).1 (by decide)
    obtain ⟨h2, rfl⟩ := f2.unique h1
    have h3 : a2 = 0 := h2.trans (by decide)
    subst h3
    obtain ⟨rfl, rfl⟩ := c2
    rcases u2 with ⟨_, u2⟩ | ⟨u2, _⟩
    · have hok : okG exT 0 exK.width exK.est = true := by decide
      obtain ⟨_, _, _, _, _, _, _, hnb, _⟩ := room_may hok
      have h4 := AddIs.unique u2 (add_done hnb (by decide))
      exact ⟨by rw [e1, e2]; rfl, by rw [h4]; decide⟩
    · cases u2
  · cases u1
end Go.Proofs.Ytonapgbokbeopaa.ShaWalk
