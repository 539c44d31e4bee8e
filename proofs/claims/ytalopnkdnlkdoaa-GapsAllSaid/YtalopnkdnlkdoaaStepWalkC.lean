/-
  The walks of layer 4's code: At, Min, Trim.
-/
import Derived.Test.YtalopnkdnlkdoaaStepWalkB
import Derived.Test.YtalopnkdnlkdoaaBase
namespace Go.Proofs.Ytalopnkdnlkdoaa.StepWalk
open Go.RowKit Go.Proofs.Ytalopnkdnlkdoaa.SpanPlain Go.Proofs.Ytalopnkdnlkdoaa.StepPlain Go.Proofs.Ytalopnkdnlkdoaa.Mem Go.Proofs.Ytalopnkdnlkdoaa.SpanMem Go.Proofs.Ytalopnkdnlkdoaa.StepMem Go.Proofs.Ytalopnkdnlkdoaa.SpanRef Go.Proofs.Ytalopnkdnlkdoaa.StepRef
theorem atb_ways (s : List Sp) (t : Int) : (chkB s = false ∧ Hid (atB s t = false)) ∨ (chkB s = true ∧ decide (t < head s) = true ∧ Hid (atB s t = false)) ∨ (chkB s = true ∧ decide (t < head s) = false ∧ decide (4503599627370496 ≤ t) = true ∧ Hid (atB s t = false)) ∨
    (chkB s = true ∧ decide (t < head s) = false ∧ decide (4503599627370496 ≤ t) = false ∧ Hid (atB s t = true)) := by
  unfold atB
  cases chkB s with
  | false => exact .inl ⟨rfl, rfl⟩
  | true =>
    by_cases h1 : t < head s
    · exact .inr (.inl ⟨rfl, decide_eq_true h1, by rw [decide_eq_false (by omega : ¬ head s ≤ t)]; rfl⟩)
    · by_cases h2 : 4503599627370496 ≤ t
      · exact .inr (.inr (.inl ⟨rfl, decide_eq_false h1, decide_eq_true h2, by rw [decide_eq_false (by omega : ¬ t < 4503599627370496), Bool.and_false]; rfl⟩))
      · exact .inr (.inr (.inr ⟨rfl, decide_eq_false h1, decide_eq_false h2, by rw [decide_eq_true (by omega : head s ≤ t), decide_eq_true (by omega : t < 4503599627370496)]; rfl⟩))
theorem at_no {s : List Sp} {t : Int} (h : atB s t = false) {w w' : World} (hb : Below w.heap.size w w') : PairIs (atN s t) (atB s t) w (.returned (.tuple #[.int .i64 0, .bool false])) w' := by
  unfold atN
  rw [h]
  exact ⟨rfl, hb⟩
theorem at_yes {s : List Sp} {t : Int} (h : atB s t = true) {n : Int} (hn : val s t = n) {w w' : World} (hb : Below w.heap.size w w') : PairIs (atN s t) (atB s t) w (.returned (.tuple #[.int .i64 n, .bool true])) w' := by
  unfold atN
  rw [h, hn]
  exact ⟨rfl, hb⟩
theorem raw_of {l : List Sp} {w : World} {ad : Addr} {n c : Nat} (h : SpansIs l w (.slice (some ad) n c)) : Raw w ad (svals l) := by
  rcases h with ⟨h1, _⟩ | ⟨a, c2, h1, h2, _⟩
  · cases h1
  · injection h1 with h1
    injection h1 with h1
    subst h1
    exact h2
theorem svals_drop (l : List Sp) : ∀ k, (svals l).drop (k * 2) = svals (l.drop k) := by
  induction l with
  | nil => intro k; simp [svals]
  | cons s l ih =>
    intro k
    cases k with
    | zero => rfl
    | succ k =>
      have e : svals (s :: l) = .int .i64 s.1 :: .int .i64 s.2 :: svals l := rfl
      rw [e, show (k + 1) * 2 = k * 2 + 1 + 1 by omega, List.drop_succ_cons, List.drop_succ_cons, List.drop_succ_cons]
      exact ih k
theorem svals_take (l : List Sp) : ∀ k, (svals l).take (k * 2) = svals (l.take k) := by
  induction l with
  | nil => intro k; simp [svals]
  | cons s l ih =>
    intro k
    cases k with
    | zero => simp [svals]
    | succ k =>
      have e : svals (s :: l) = .int .i64 s.1 :: .int .i64 s.2 :: svals l := rfl
      have e2 : svals (s :: l.take k) = .int .i64 s.1 :: .int .i64 s.2 :: svals (l.take k) := rfl
      rw [e, show (k + 1) * 2 = k * 2 + 1 + 1 by omega, List.take_succ_cons, List.take_succ_cons, List.take_succ_cons, ih k, e2]
theorem drop_nth {s : List Sp} {k : Nat} (h : k < s.length) : s.drop k = nth s k :: s.drop (k + 1) := by unfold nth; rw [getSp h, List.drop_eq_getElem_cons h]
theorem trim_ways (s : List Sp) (t : Int) : (chkB s = false ∧ Hid (TrimIs s t [])) ∨ (chkB s = true ∧ decide ((1125899906842624 : Int) < t) = true ∧ Hid (TrimIs s t [])) ∨ (chkB s = true ∧ decide ((1125899906842624 : Int) < t) = false ∧ decide (t ≤ head s) = true ∧ Hid (TrimIs s t s)) ∨
    (chkB s = true ∧ decide ((1125899906842624 : Int) < t) = false ∧ decide (t ≤ head s) = false ∧ Hid (∀ k, LastIs s t k → TrimIs s t ((t, (nth s k).2) :: s.drop (k + 1)))) := by
  cases hc : chkB s with
  | false => exact .inl ⟨rfl, .inl ⟨.inl hc, rfl⟩⟩
  | true =>
    by_cases h1 : 1125899906842624 < t
    · exact .inr (.inl ⟨rfl, decide_eq_true h1, .inl ⟨.inr h1, rfl⟩⟩)
    · by_cases h2 : t ≤ head s
      · exact .inr (.inr (.inl ⟨rfl, decide_eq_false h1, decide_eq_true h2, .inr (.inl ⟨hc, by omega, h2, rfl⟩)⟩))
      · exact .inr (.inr (.inr ⟨rfl, decide_eq_false h1, decide_eq_false h2, fun k hk => .inr (.inr ⟨hc, by omega, by omega, trim_done ((chk_iff s).1 hc) hk (by omega)⟩)⟩))
theorem trim_nil {s : List Sp} {t : Int} (h : TrimIs s t []) {w w' : World} (hb : Below w.heap.size w w') : TrimSays s t w (.returned (.slice none 0 0)) w' := ⟨_, [], rfl, .inl ⟨rfl, rfl⟩, h, hb, NewAt.nil⟩
theorem trim_own {s r : List Sp} {t : Int} (h : TrimIs s t r) {w w1 w' : World} {v : Value} {n : Nat} (hb1 : Below w.heap.size w w1) (ho : OwnR 31 2 w1.heap.size w' v n (svals r)) (hn : n = r.length) (hb : Below w1.heap.size w1 w') : TrimSays s t w (.returned v) w' :=
  ⟨_, r, rfl, OwnR.spans ho hn, h, below_then hb1 hb, NewAt.own ho.toN hb1.size⟩
end Go.Proofs.Ytalopnkdnlkdoaa.StepWalk
