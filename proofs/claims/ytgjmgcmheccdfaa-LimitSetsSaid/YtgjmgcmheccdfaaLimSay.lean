/-
  What layer 10's functions answer: the posts that the law texts name; the example of the statements.
-/
import Derived.Test.YtgjmgcmheccdfaaLimRefC
import Derived.Test.YtgjmgcmheccdfaaLimRefD
import Derived.Test.YtgjmgcmheccdfaaJobRefB
namespace Go.Proofs.Ytgjmgcmheccdfaa.LimWalk
open Go.RowKit Go.Proofs.Ytgjmgcmheccdfaa.JobPlain Go.Proofs.Ytgjmgcmheccdfaa.ApiPlain Go.Proofs.Ytgjmgcmheccdfaa.LimPlain Go.Proofs.Ytgjmgcmheccdfaa.Mem Go.Proofs.Ytgjmgcmheccdfaa.ApiMem Go.Proofs.Ytgjmgcmheccdfaa.JobMem Go.Proofs.Ytgjmgcmheccdfaa.LimRef
def TrueIs (w : World) (e : Ending) (w' : World) : Prop := e = .returned (.bool true) ∧ Below w.heap.size w w'
def UsesFit (u : List Use) : Prop := ∀ z ∈ u, UseFit z
def leftP (l : List Lim) (u : List Use) (s : ByteArray) : Int × Int := if checkL l = 0 then leftL l u s else (0, 0)
def exX : Lim := ⟨⟨#[97, 110, 110]⟩, 1, 8⟩
def exU : Use := ⟨⟨#[97, 110, 110]⟩, 1, 3⟩
def exQ : Jb := ⟨1, ⟨#[97, 110, 110]⟩, 2, 9, 0, 0, 1, 0, 0⟩
theorem ex_one : oneL exX = true := (oneL_iff _).2 ⟨by rfl, by decide, by decide, by decide, by decide⟩
theorem ex_empty : checkL [] = 0 := by rfl
theorem ex_setE : setE [] exX = 0 := setE_ok ex_empty ex_one (by decide)
theorem ex_setR : setR [] exX = [exX] := by rw [setR_yes ex_setE]; rfl
theorem ex_check : checkL [exX] = 0 := by
  refine checkL_ok (by decide) ?_
  show goodTo [exX] 1 = true
  unfold goodTo goodAt
  simp [List.range, List.range.loop, nthL, ex_one]
theorem ex_lim : limOf [exX] exQ.user = some exX := by
  have h : sameU exX.user exQ.user = true := same_refl _
  unfold limOf
  simp [h]
theorem ex_use : useOf [exU] exQ.user = some exU := by
  have h : sameU exU.user exQ.user = true := same_refl _
  unfold useOf
  simp [h]
theorem ex_job : mayJ exQ = true := by rfl
theorem ex_may : mayM [exX] [] exQ = true := by
  unfold mayM leftL
  rw [ex_check, ex_job, ex_lim]
  rfl
theorem ex_not : mayM [exX] [exU] exQ = false := by
  unfold mayM leftL
  rw [ex_check, ex_job, ex_lim, ex_use]
  rfl
theorem ex_fitL : LimsFit [exX] := fun x hx => by
  simp at hx
  subst hx
  exact ⟨by decide, by decide, by decide⟩
theorem ex_fitX : LimFit exX := ⟨by decide, by decide, by decide⟩
theorem ex_fitU : UsesFit [exU] := fun x hx => by
  simp at hx
  subst hx
  exact ⟨by decide, by decide, by decide⟩
theorem ex_fitJ : Fit exQ := ⟨by decide, by decide, by decide⟩
end Go.Proofs.Ytgjmgcmheccdfaa.LimWalk
