/-
  What layer 4's functions answer: the posts that the law texts name; how long answers are.
-/
import Derived.Test.YtalopnkdnlkdoaaStepRef0
namespace Go.Proofs.Ytalopnkdnlkdoaa.StepWalk
open Go.RowKit Go.Proofs.Ytalopnkdnlkdoaa.SpanPlain Go.Proofs.Ytalopnkdnlkdoaa.StepPlain Go.Proofs.Ytalopnkdnlkdoaa.Mem Go.Proofs.Ytalopnkdnlkdoaa.SpanMem Go.Proofs.Ytalopnkdnlkdoaa.StepMem Go.Proofs.Ytalopnkdnlkdoaa.SpanRef Go.Proofs.Ytalopnkdnlkdoaa.StepRef
def TrueIs (w : World) (e : Ending) (w' : World) : Prop := e = .returned (.bool true) ∧ Below w.heap.size w w'
/-- A slice whose memory, if there is any, is new from block B on. -/
def NewAt (B : Nat) (v : Value) : Prop := ∀ a n c, v = .slice (some a) n c → B ≤ a.block
theorem NewAt.nil {B : Nat} : NewAt B (.slice none 0 0) := fun _ _ _ h => by cases h
theorem NewAt.mono {B B' : Nat} {v : Value} (h : NewAt B v) (hb : B' ≤ B) : NewAt B' v := fun a n c e => Nat.le_trans hb (h a n c e)
theorem NewAt.own {e : TypeId} {k base n B : Nat} {w : World} {v : Value} {xs : List Value} (h : OwnN e k base w v n xs) (hb : B ≤ base) : NewAt B v := fun a m c e => by
  rcases h.form with ⟨h1, _⟩ | ⟨g, c', h1, h2, _⟩
  · rw [h1] at e; cases e
  · rw [h1] at e
    injection e with e
    injection e with e
    subst e
    exact Nat.le_trans hb h2
theorem NewAt.cut {B : Nat} {a : Addr} {n c m k : Nat} (h : NewAt B (.slice (some a) n c)) : NewAt B (.slice (some a) m k) := fun b i j e => by
  injection e with e
  injection e with e
  subst e
  exact h _ _ _ rfl
def OfSays (p t : Int) (l : List By) (w : World) (e : Ending) (w' : World) : Prop := ∃ v s c, e = .returned (.tuple #[v, .int .i64 c]) ∧ OfIs p t l s c ∧ SpansIs s w' v ∧ Below w.heap.size w w' ∧ NewAt w.heap.size v
def PairIs (n : Int) (b : Bool) (w : World) (e : Ending) (w' : World) : Prop := e = .returned (.tuple #[.int .i64 n, .bool b]) ∧ Below w.heap.size w w'
def atB (s : List Sp) (t : Int) : Bool := chkB s && decide (head s ≤ t) && decide (t < 4503599627370496)
def atN (s : List Sp) (t : Int) : Int := if atB s t then val s t else 0
def minB (s : List Sp) (x : Sp) : Bool := chkB s && mayB x && decide (head s ≤ x.1)
def MinSays (s : List Sp) (x : Sp) (w : World) (e : Ending) (w' : World) : Prop := ∃ n, e = .returned (.tuple #[.int .i64 n, .bool (minB s x)]) ∧ ((minB s x = true ∧ MinOf s x n) ∨ (minB s x = false ∧ n = 0)) ∧ Below w.heap.size w w'
def AddSays (s : List Sp) (x : Sp) (n : Int) (w : World) (e : Ending) (w' : World) : Prop := ∃ v r, e = .returned v ∧ SpansIs r w' v ∧ AddIs s x n r ∧ Below w.heap.size w w' ∧ NewAt w.heap.size v
def TrimIs (s : List Sp) (t : Int) (r : List Sp) : Prop := ((chkB s = false ∨ 1125899906842624 < t) ∧ r = []) ∨ (chkB s = true ∧ t ≤ 1125899906842624 ∧ t ≤ head s ∧ r = s) ∨ (chkB s = true ∧ t ≤ 1125899906842624 ∧ head s < t ∧ Rep r t (val s))
def TrimSays (s : List Sp) (t : Int) (w : World) (e : Ending) (w' : World) : Prop := ∃ v r, e = .returned v ∧ SpansIs r w' v ∧ TrimIs s t r ∧ Below w.heap.size w w' ∧ NewAt w.heap.size v
theorem rep_free {r : List Sp} {h : Int} {P : Int → Int} (a : Rep r h P) {t : Int} (ht : h ≤ t) : 0 ≤ P t ∧ P t ≤ 256 := by
  have := a.1.val_free (t := t) (by rw [a.2.1]; exact ht)
  rwa [a.2.2 t ht] at this
theorem of_len {p t : Int} {l : List By} {s : List Sp} {c : Int} (h : OfIs p t l s c) : s.length ≤ 2 * l.length + 1 := by
  rcases h with ⟨_, rfl, _⟩ | ⟨_, _, rfl, _⟩ | ⟨h1, _, h2⟩
  · simp
  · simp
  · have h3 := of_done h1 (fun x hx => (rep_free h2 (turns_ge x hx)).1)
    rcases h3 with ⟨h4, _⟩ | ⟨_, _, _, h4⟩ | ⟨_, _, h4⟩
    · exact absurd h4 h1
    · cases h4
    · rw [h2.unique h4]
      have h5 := build_len (freeL p l) (turnsL t l)
      have h6 := (ends_spec (busySp l)).2.2
      rw [busy_at (fun _ => trivial)] at h6
      have h7 := List.length_filter_le (fun e => decide (t < e)) (endsL (busySp l))
      unfold turnsL at h5
      rw [List.length_cons] at h5
      unfold turnsL
      omega
theorem add_len_of {s r : List Sp} {x : Sp} {n : Int} (h : AddIs s x n r) : r.length ≤ 2 * s.length + 2 := by
  rcases h with ⟨_, rfl⟩ | ⟨_, _, rfl⟩ | ⟨h1, h2⟩
  · simp
  · simp
  · obtain ⟨hc, hx, _⟩ := not_addBad h1
    have h3 := add_rep (n := n) hc hx (fun e he => rep_free h2 ((keep_iff hc).1 (List.mem_filter.1 he).2).1)
    rw [h2.unique h3]
    have h5 := build_len (addF s x n) (addEnds s x)
    have h6 := (ends_spec (addSpans s x)).2.2
    rw [add_len] at h6
    have h7 := List.length_filter_le (keepB s x) (endsL (addSpans s x))
    have e : addEnds s x = (endsL (addSpans s x)).filter (keepB s x) := rfl
    rw [← e] at h7
    omega
theorem trim_len_of {s r : List Sp} {t : Int} (h : TrimIs s t r) : r.length ≤ s.length + 1 := by
  rcases h with ⟨_, rfl⟩ | ⟨_, _, _, rfl⟩ | ⟨h1, h2, h3, h4⟩
  · simp
  · omega
  · rw [h4.unique (trim_rep ((chk_iff s).1 h1) (by omega) h2)]
    unfold trimL
    rw [List.length_cons]
    have := List.length_filter_le (fun y : Sp => decide (t < y.1)) s
    omega
/-- What Trim of the document tells. -/
theorem trim_same {s r : List Sp} {t : Int} (h : TrimIs s t r) (h1 : chkB s = true) (h2 : t ≤ 1125899906842624) : r = if t ≤ head s then s else trimL s t := by
  rcases h with ⟨h3 | h3, _⟩ | ⟨_, _, h3, rfl⟩ | ⟨_, _, h3, h4⟩
  · rw [h1] at h3; cases h3
  · omega
  · rw [if_pos h3]
  · rw [if_neg (by omega)]
    exact h4.unique (trim_rep ((chk_iff s).1 h1) (by omega) h2)
/-- The example of the statements. -/
def exB : List By := [(2, 4, 3)]
def exS : List Sp := [(0, 5), (2, 2), (4, 5)]
theorem ex_of : OfIs 5 0 exB exS 0 := by
  refine .inr (.inr ⟨fun h => ?_, rfl, ⟨(chk_iff exS).1 (by decide), rfl, fun t ht => ?_⟩⟩)
  · rcases h with ⟨b, hb, hx⟩ | h | h | h | h | h
    · simp [exB] at hb
      subst hb
      revert hx
      decide
    all_goals (revert h; decide)
  · unfold val valFrom freeL exS exB
    simp only [List.foldl_cons, List.foldl_nil]
    by_cases h1 : (2 : Int) ≤ t <;> by_cases h2 : (4 : Int) ≤ t <;> simp [h1, h2, ht] <;> omega
theorem ex_min : MinOf exS (1, 3) 2 := by
  refine ⟨⟨2, by decide, by decide, by decide⟩, fun t h1 h2 => ?_⟩
  unfold val valFrom exS
  simp only [List.foldl_cons, List.foldl_nil]
  dsimp only at h1 h2
  by_cases h3 : (2 : Int) ≤ t <;> by_cases h4 : (4 : Int) ≤ t <;> simp [h3, h4, show (0 : Int) ≤ t by omega]
theorem ex_minB : minB exS (1, 3) = true := by decide
theorem ex_chk : chkB exS = true := by decide
end Go.Proofs.Ytalopnkdnlkdoaa.StepWalk
