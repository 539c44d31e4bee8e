/-
  The walks of the document's digits: Digits, Cmp, Fits.
-/
import Derived.Test.YtedpkphbpkkhbaaRows
import Derived.Test.YtedpkphbpkkhbaaSatPlain
import Derived.Test.YtedpkphbpkkhbaaMem
import Derived.WalkKit
import Derived.WalkSpells
import Derived.WalkLawsBesides
namespace Go.Proofs.Ytedpkphbpkkhbaa.SatWalk
open Go.RowKit Go.Proofs.Ytedpkphbpkkhbaa.SatPlain Go.Proofs.Ytedpkphbpkkhbaa.Mem

/-- A digit's cell. -/
def dcell (l : List Nat) (i : Nat) : Value := .int .u64 (l.getD i 0 : Nat)
/-- A slice value that reads as digits. -/
def Reads (w : World) (v : Value) (l : List Nat) : Prop := ∃ A c, v = .slice A l.length c ∧ Cells w A l.length (dcell l) ∧ Ds l
theorem Reads.below {w w' : World} {v : Value} {l : List Nat} (h : Reads w v l) (hb : Below w.heap.size w w') : Reads w' v l := by
  obtain ⟨A, c, e, hc, hd⟩ := h
  exact ⟨A, c, e, hc.below hb, hd⟩

theorem five (a b c d e : Nat) : ∀ i, i < 5 → #[Value.int .u64 a, .int .u64 b, .int .u64 c, .int .u64 d, .int .u64 e][i]? = some (dcell [a, b, c, d, e] i)
  | 0, _ => rfl | 1, _ => rfl | 2, _ => rfl | 3, _ => rfl | 4, _ => rfl
  | k + 5, h => by omega

def DigitsIs (n : Nat) (w : World) (e : Ending) (w' : World) : Prop := ∃ v, e = .returned v ∧ Reads w' v (dg n) ∧ Below w.heap.size w w'

set_option maxHeartbeats 400000 in
theorem digits_pos (n : Nat) (w : World) (h : n < 9223372036854775808) :
    Calls Try.prog 8 #[.int .i64 n] w (DigitsIs n w) := by
  go_enter Try.func8, Try.ntmps8
  go_wp2
  go_ret
  exact ⟨_, rfl, ⟨_, _, rfl, Cells.of_alloc w _ _ _ (five _ _ _ _ 0), dg_ds (by omega)⟩, (Below.refl _ _).alloc (Nat.le_refl _) _⟩

set_option maxHeartbeats 400000 in
theorem digits_neg (n : Nat) (w : World) (h0 : 0 < n) (h : n ≤ 9223372036854775808) :
    Calls Try.prog 8 #[.int .i64 (-(n : Int))] w (DigitsIs n w) := by
  have e1 : IntKind.u64.wrap (-(n : Int)) = 18446744073709551616 - (n : Int) := by rw [IntKind.wrap_u64]; omega
  have e2 : IntKind.u64.wrap (-(18446744073709551616 - (n : Int))) = (n : Int) := by rw [IntKind.wrap_u64]; omega
  have hlt : -(n : Int) < 0 := by omega
  go_enter Try.func8, Try.ntmps8
  go_wp2
  go_ret
  exact ⟨_, rfl, ⟨_, _, rfl, Cells.of_alloc w _ _ _ (five _ _ _ _ 0), dg_ds (by omega)⟩, (Below.refl _ _).alloc (Nat.le_refl _) _⟩

/-- What Cmp tells. -/
def CmpIs (a b : List Nat) (w : World) (e : Ending) (w' : World) : Prop := e = .returned (.int .i64 (cmpI (dval a) (dval b))) ∧ w = w'
theorem CmpIs.of {a b : List Nat} {w : World} {n : Int} (h : n = cmpI (dval a) (dval b)) : CmpIs a b w (.returned (.int .i64 n)) w := ⟨by rw [h], rfl⟩

theorem getD_out {l : List Nat} {k : Nat} (h : ¬ k < l.length) : l.getD k 0 = 0 := by simp [List.getD, h]

set_option maxHeartbeats 3200000 in
theorem cmp_any (v u : Value) (a b : List Nat) (w : World) (ha : Reads w v a) (hb : Reads w u b) (la : a.length ≤ 100) (lb : b.length ≤ 100) :
    Calls Try.prog 13 #[v, u] w (CmpIs a b w) := by
  obtain ⟨A, c, rfl, hA, da⟩ := ha
  obtain ⟨B, c', rfl, hB, db⟩ := hb
  have HA := Lib.hid hA
  have HB := Lib.hid hB
  have DA := Lib.hid da
  have DB := Lib.hid db
  clear hA hB da db
  have hcase : (decide (a.length < b.length) = true ∧ max a.length b.length = b.length) ∨ (decide (a.length < b.length) = false ∧ max a.length b.length = a.length) := by
    by_cases h : a.length < b.length
    · left; exact ⟨by simp [h], by omega⟩
    · right; exact ⟨by simp [h], by omega⟩
  have HT := Lib.hid (Same.top a b)
  rcases hcase with ⟨hcase, hmax⟩ | ⟨hcase, hmax⟩
  all_goals
    rw [hmax] at HT
    clear hmax
    go_enter Try.func13, Try.ntmps13
    go_wp2_with fail
    go_loop [6] (fun i => ∃ k : Nat, i = .int .i64 ((k : Int) - 1) ∧ k ≤ 100 ∧ Hid (Same a b k)) (fun i => (intOf i + 1).toNat)
    case atStart => exact ⟨_, rfl, by omega, HT⟩
    case round =>
      obtain ⟨k, hi, hk, HS⟩ := hrel
      clear HT
      cases k with
      | zero =>
        rw [show ((0 : Nat) : Int) - 1 = -1 from rfl] at hi
        subst hi
        go_wp2_with fail
        go_ret
        exact CmpIs.of (cmpI_eq HS.out.all).symm
      | succ k =>
        rw [show ((k + 1 : Nat) : Int) - 1 = (k : Int) from by omega] at hi
        subst hi
        have hxy := cmp_cases (a.getD k 0) (b.getD k 0)
        have hx : (k < a.length ∧ ∃ ad, A = some ad ∧ w.cell? (ad.add k) = some (.int .u64 ((a.getD k 0 : Nat) : Int))) ∨ (¬ k < a.length ∧ a.getD k 0 = 0) := by
          by_cases h : k < a.length
          · obtain ⟨ad, e, _, hc⟩ := HA.out.at h
            exact .inl ⟨h, ad, e, hc⟩
          · exact .inr ⟨h, getD_out h⟩
        have hy : (k < b.length ∧ ∃ ad, B = some ad ∧ w.cell? (ad.add k) = some (.int .u64 ((b.getD k 0 : Nat) : Int))) ∨ (¬ k < b.length ∧ b.getD k 0 = 0) := by
          by_cases h : k < b.length
          · obtain ⟨ad, e, _, hc⟩ := HB.out.at h
            exact .inl ⟨h, ad, e, hc⟩
          · exact .inr ⟨h, getD_out h⟩
        have h1 := DA.out.getD k
        have h2 := DB.out.getD k
        have HL : Hid (a.getD k 0 < b.getD k 0 → dval a < dval b) := fun h => HS.out.less DA.out h
        have HG : Hid (b.getD k 0 < a.getD k 0 → dval b < dval a) := fun h => HS.out.symm.less DB.out h
        have HE : Hid (a.getD k 0 = b.getD k 0 → Same a b k) := fun h => HS.out.step h
        generalize a.getD k 0 = x at *
        generalize b.getD k 0 = y at *
        rcases hx with ⟨hka, ad, rfl, hca⟩ | ⟨hka, rfl⟩ <;> rcases hy with ⟨hkb, bd, rfl, hcb⟩ | ⟨hkb, rfl⟩ <;> rcases hxy with hxy | ⟨hxy1, hxy⟩ | ⟨hxy1, hxy2, hxy⟩
        all_goals first
          | (exfalso; omega)
          | (have HX := Lib.hid hxy
             clear hxy
             go_wp2_with fail
             first
               | (go_ret; exact CmpIs.of (cmpI_lt (HL.out HX.out)).symm)
               | (go_ret; exact CmpIs.of (cmpI_gt (HG.out HX.out)).symm)
               | exact ⟨⟨k, rfl, by omega, HE.out HX.out⟩, by simp [intOf] <;> omega⟩)
end Go.Proofs.Ytedpkphbpkkhbaa.SatWalk
