/-
  The plain mathematics of layer 4's landed code, further: what each of its functions comes to.
-/
import Derived.Test.YtnjhboanhjjldaaStepCut
namespace Go.Proofs.Ytnjhboanhjjldaa.StepPlain
open Go.Proofs.Ytnjhboanhjjldaa.SpanPlain

/-- A step that may stand where it stands. -/
def okC (s : List Sp) (i : Nat) : Prop := (0 ≤ (nth s i).2 ∧ (nth s i).2 ≤ 256) ∧ (i = 0 ∨ ((nth s (i - 1)).1 < (nth s i).1 ∧ (nth s i).2 ≠ (nth s (i - 1)).2))
theorem check_yes {s : List Sp} (hp : 0 < s.length) (h0 : 0 ≤ head s ∧ head s ≤ 1125899906842624) (hl : (nth s (s.length - 1)).1 ≤ 4503599627370496) (h : ∀ i, i < s.length → okC s i) : chkB s = true := by
  have hu : Up s := by
    have ha : Alt s := alt_of fun i hi => by
      rcases (h (i + 1) hi).2 with h1 | h1
      · omega
      · exact ⟨h1.1, fun e => h1.2 e.symm⟩
    exact ha.up
  refine (chk_iff s).2 ⟨hp, h0.1, h0.2, alt_of fun i hi => ?_, fun x hx => ?_, fun x hx => ?_⟩
  · rcases (h (i + 1) hi).2 with h1 | h1
    · omega
    · exact ⟨h1.1, fun e => h1.2 e.symm⟩
  · obtain ⟨i, hi, rfl⟩ := List.mem_iff_getElem.1 hx
    rw [← getSp hi]
    exact (h i hi).1
  · obtain ⟨i, hi, rfl⟩ := List.mem_iff_getElem.1 hx
    rw [← getSp hi]
    have := hu.le (i := i) (j := s.length - 1) (by omega) (by omega)
    unfold nth at this hl
    omega
theorem check_no {s : List Sp} (h : ¬ (0 < s.length ∧ (0 ≤ head s ∧ head s ≤ 1125899906842624) ∧ (nth s (s.length - 1)).1 ≤ 4503599627370496 ∧ ∀ i, i < s.length → okC s i)) : chkB s = false := by
  cases hc : chkB s with
  | false => rfl
  | true =>
    have c := (chk_iff s).1 hc
    refine absurd ⟨c.pos, ⟨c.lo, c.hi⟩, c.top _ (nth_mem (by have := c.pos; omega)), fun i hi => ⟨c.free _ (nth_mem hi), ?_⟩⟩ h
    by_cases h0 : i = 0
    · exact .inl h0
    · right
      have := alt_at c.alt (i - 1) (by omega)
      rw [show i - 1 + 1 = i by omega] at this
      exact ⟨this.1, fun e => this.2 e.symm⟩
theorem bad_empty {s : List Sp} (h : s.length = 0) : chkB s = false := check_no fun c => by omega
theorem bad_head {s : List Sp} (h : ¬ (0 ≤ head s ∧ head s ≤ 1125899906842624)) : chkB s = false := check_no fun c => h c.2.1
theorem bad_last {s : List Sp} (h : 4503599627370496 < (nth s (s.length - 1)).1) : chkB s = false := check_no fun c => by have := c.2.2.1; omega
theorem bad_at {s : List Sp} {i : Nat} (hi : i < s.length) (h : ¬ okC s i) : chkB s = false := check_no fun c => h (c.2.2.2 i hi)

/-- The least one, from the last step on that is not behind the span's beginning. -/
theorem min_start {s : List Sp} (hu : Up s) {x : Sp} {k : Nat} (h : LastIs s x.1 k) : minTo s x (k + 1) = (nth s k).2 := by
  have hv := h.val
  have : ∀ m, m ≤ k + 1 → minTo s x m = val s x.1 := by
    intro m
    induction m with
    | zero => intro _; rfl
    | succ m ih =>
      intro hm
      rw [min_next (by have := h.lt; omega), ih (by omega)]
      have h1 := hu.le (i := m) (j := k) (by omega) h.lt
      have h2 := h.le
      unfold minStep
      rw [if_neg (by unfold nth at h1 h2; omega)]
  rw [this _ (Nat.le_refl _), hv]
theorem min_more {s : List Sp} (hu : Up s) {x : Sp} {k j : Nat} (h : LastIs s x.1 k) (h1 : k < j) (hj : j < s.length) (h2 : (nth s j).1 < x.2) : minTo s x (j + 1) = min (minTo s x j) (nth s j).2 := by
  have h3 := h.late j h1 hj
  rw [min_next hj]
  unfold minStep nth at *
  by_cases h4 : (s.getD j (0, 0)).2 < minTo s x j
  · rw [if_pos ⟨h3, h2, h4⟩]; omega
  · rw [if_neg (fun h5 => h4 h5.2.2)]; omega
theorem min_end {s : List Sp} (hu : Up s) {x : Sp} {j : Nat} (h2 : j < s.length → x.2 ≤ (nth s j).1) (hj : j ≤ s.length) : minTo s x j = minTo s x s.length := by
  have : ∀ m, j ≤ m → m ≤ s.length → minTo s x m = minTo s x j := by
    intro m
    induction m with
    | zero => intro h3 _; rw [show j = 0 by omega]
    | succ m ih =>
      intro h3 h4
      by_cases h5 : j = m + 1
      · rw [h5]
      · rw [min_next (by omega), ih (by omega) (by omega)]
        have h6 := h2 (by omega)
        have h7 := hu.le (i := j) (j := m) (by omega) (by omega)
        unfold minStep
        rw [if_neg (by unfold nth at h6 h7; omega)]
  exact (this _ hj (Nat.le_refl _)).symm
theorem min_done {s : List Sp} (h : Chk s) {x : Sp} (hx : x.1 < x.2) (hh : head s ≤ x.1) {j : Nat} (h2 : j < s.length → x.2 ≤ (nth s j).1) (hj : j ≤ s.length) : MinOf s x (minTo s x j) := by
  rw [min_end h.up h2 hj]
  exact min_spec h hx hh

/-- Steps from a time on: the last one that is not behind it, at that time, and those behind. -/
theorem trim_done {s : List Sp} (h : Chk s) {t : Int} {k : Nat} (hk : LastIs s t k) (ht : t ≤ 1125899906842624) : Rep ((t, (nth s k).2) :: s.drop (k + 1)) t (val s) := by
  have hh : head s ≤ t := by
    have := h.up.le (Nat.zero_le k) hk.lt
    have := hk.le
    unfold head
    unfold nth at *
    omega
  have e : trimL s t = (t, (nth s k).2) :: s.drop (k + 1) := by
    unfold trimL
    rw [hk.val]
    congr 1
    have e1 := parts_at hk.lt
    have h2 := hk.behind
    have h1 := hk.le
    have h3 : ∀ z ∈ s.take k, z.1 ≤ t := by
      intro z hz
      obtain ⟨i, hi, rfl⟩ := List.mem_iff_getElem.1 hz
      rw [List.length_take] at hi
      have := h.up.le (i := i) (j := k) (by omega) hk.lt
      rw [List.getElem_take, ← getSp (by omega)]
      unfold nth at *
      omega
    generalize nth s k = y at *
    conv => lhs; rw [e1]
    rw [List.filter_append, List.filter_cons, if_neg (by simp; omega), List.filter_eq_nil_iff.2 (fun z hz => by have := h3 z hz; simp; omega), List.filter_eq_self.2 (fun z hz => by have := h2 z hz; simp; omega)]
    rfl
  rw [← e]
  exact trim_rep h hh ht
theorem drop_set {s : List Sp} {k : Nat} {t : Int} (hk : k < s.length) : (s.drop k).set 0 (t, (nth s k).2) = (t, (nth s k).2) :: s.drop (k + 1) := by
  unfold nth
  rw [getSp hk, List.drop_eq_getElem_cons hk, List.set_cons_zero]

/-- Steps that are cut twice: where the span is. -/
structure CutsIs (s m : List Sp) (f t : Int) (a b : Nat) : Prop where
  up : Up m
  hd : head m = head s
  val : ∀ u, val m u = val s u
  fst : ∀ y ∈ m, 0 ≤ y.1 ∧ y.1 ≤ 4503599627370496
  snd : ∀ y ∈ m, 0 ≤ y.2 ∧ y.2 ≤ 256
  first : LastIs m f a
  at_a : (nth m a).1 = f
  lt_b : b < m.length
  at_b : (nth m b).1 = t
  len : m.length ≤ s.length + 2
theorem cuts_is {s : List Sp} (h : Chk s) {f t : Int} {i j : Nat} (hf : head s ≤ f) (hft : f < t) (ht : t ≤ 4503599627370496) (hi : LastIs s f i) (hj : LastIs (cutL s f i) t j) :
    ∃ a b, CutsIs s (cutL (cutL s f i) t j) f t a b ∧ a < b ∧ ∀ k, LastIs (cutL (cutL s f i) t j) f k → k = a := by
  have u1 := cut_up h.up hi
  have u2 := cut_up u1 hj
  have hlo := h.lo
  have hge := h.ge
  have hd1 := cut_head hi
  have hd2 := cut_head hj
  have hm2 : ∀ y ∈ cutL (cutL s f i) t j, y ∈ s ∨ y = (f, (nth s i).2) ∨ y = (t, (nth (cutL s f i) j).2) := fun y hy => by
    rcases cut_mem hy with hy | hy
    · rcases cut_mem hy with hy | hy
      · exact .inl hy
      · exact .inr (.inl hy)
    · exact .inr (.inr hy)
  have hsnd1 : ∀ y ∈ cutL s f i, 0 ≤ y.2 ∧ y.2 ≤ 256 := fun y hy => by
    rcases cut_mem hy with hy | rfl
    · exact h.free y hy
    · have := h.free _ (nth_mem hi.lt); exact this
  have hsnd : ∀ y ∈ cutL (cutL s f i) t j, 0 ≤ y.2 ∧ y.2 ≤ 256 := fun y hy => by
    rcases cut_mem hy with hy | rfl
    · exact hsnd1 y hy
    · have := hsnd1 _ (nth_mem hj.lt); exact this
  have hp : 0 < (cutL (cutL s f i) t j).length := by have := (cut_len (t := t) hj.lt).2; have := (cut_len (t := f) hi.lt).2; have := hi.lt; omega
  have hfst : ∀ y ∈ cutL (cutL s f i) t j, 0 ≤ y.1 ∧ y.1 ≤ 4503599627370496 := fun y hy => by
    rcases hm2 y hy with hy | rfl | rfl
    · have := hge y hy; have := h.top y hy; omega
    · dsimp only; omega
    · dsimp only; omega
  have hmf : ∃ y ∈ cutL (cutL s f i) t j, y.1 = f := by obtain ⟨y, hy, e⟩ := cut_at hi; exact ⟨y, mem_cut hy, e⟩
  have hmt := cut_at hj
  obtain ⟨a, ha⟩ := u2.last (t := f) hp (by rw [hd2, hd1]; exact hf)
  obtain ⟨b, hb⟩ := u2.last (t := t) hp (by rw [hd2, hd1]; omega)
  have ea := ha.here u2 hmf
  have eb := hb.here u2 hmt
  have l1 := (cut_len (t := t) hj.lt).1
  have l2 := (cut_len (t := f) hi.lt).1
  refine ⟨a, b, ⟨u2, by rw [hd2, hd1], fun u => by rw [cut_val hj, cut_val hi], hfst, hsnd, ha, ea, hb.lt, eb, by omega⟩, ?_, fun k hk => ?_⟩
  · rcases Nat.lt_or_ge a b with h3 | h3
    · exact h3
    · have := u2.le h3 ha.lt; omega
  · rcases Nat.lt_trichotomy k a with h3 | h3 | h3
    · have := hk.late a h3 ha.lt; omega
    · exact h3
    · have := ha.late k h3 hk.lt; have := hk.le; omega
section
variable {s m : List Sp} {x : Sp} {n : Int} {a b : Nat}
theorem in_span (hx : May x) {t : Int} (ht : head s ≤ t) : hasB x t = true ↔ max x.1 (head s) ≤ t ∧ t < x.2 := by
  rw [hasB_iff]
  constructor
  · rintro ⟨_, h1, h2⟩; exact ⟨by omega, h2⟩
  · rintro ⟨h1, h2⟩; exact ⟨hx, by omega, h2⟩
theorem cuts_ge (c : CutsIs s m (max x.1 (head s)) x.2 a b) {i : Nat} (hi : i < m.length) : head s ≤ (nth m i).1 := by
  have := c.up.le (Nat.zero_le i) hi
  have := c.hd
  unfold head at *
  unfold nth at *
  omega
/-- One step out of bounds. -/
theorem cuts_out (h : ¬ addBad s x n) (c : CutsIs s m (max x.1 (head s)) x.2 a b) {i : Nat} (h1 : a ≤ i) (h2 : i < b) (ho : ¬ (0 ≤ (nth m i).2 + n ∧ (nth m i).2 + n ≤ 256)) : AddIs s x n [] := by
  obtain ⟨_, hx, _⟩ := not_addBad h
  have hib : i < m.length := by have := c.lt_b; omega
  have hge := cuts_ge c hib
  have g1 := c.up.le h1 hib
  have g2 := c.up.lt h2 c.lt_b
  have ea := c.at_a
  have eb := c.at_b
  have hv : val m (nth m i).1 = (nth m i).2 := LastIs.val ⟨hib, Int.le_refl _, fun j h3 h4 => c.up.lt h3 h4⟩
  refine .inr (.inl ⟨h, ⟨(nth m i).1, hge, fun hh => ho ?_⟩, rfl⟩)
  unfold addF at hh
  rw [(in_span hx hge).2 ⟨by omega, by omega⟩] at hh
  rw [← c.val, hv] at hh
  simpa using hh
/-- All within bounds: joined they are the steps. -/
theorem cuts_done (h : ¬ addBad s x n) (c : CutsIs s m (max x.1 (head s)) x.2 a b) (hab : a ≤ b) (hf : ∀ i, a ≤ i → i < b → 0 ≤ (nth m i).2 + n ∧ (nth m i).2 + n ≤ 256) : AddIs s x n (joinL (bump n m a (b - a))) := by
  obtain ⟨hc, hx, _⟩ := not_addBad h
  have hb := c.lt_b
  have hlen : a + (b - a) < m.length := by omega
  have hh : head (bump n m a (b - a)) = head s := by
    rw [← c.hd]
    have := bump_first (n := n) (l := m) (a := a) (m := b - a) (i := 0) (by omega)
    unfold head
    unfold nth at this
    exact this
  refine .inr (.inr ⟨h, rep_join (bump_up (by omega) c.up) (by rw [bump_len]; omega) hh hc.lo hc.hi (fun y hy => ?_) (fun y hy => ?_) fun t ht => ?_⟩)
  · obtain ⟨i, hi, rfl⟩ := List.mem_iff_getElem.1 hy
    rw [bump_len] at hi
    rw [← getSp (by rw [bump_len]; exact hi)]
    show 0 ≤ (nth _ i).2 ∧ (nth _ i).2 ≤ 256
    rw [bump_at (by omega)]
    by_cases h1 : a ≤ i ∧ i < a + (b - a)
    · rw [if_pos h1]; exact hf i h1.1 (by omega)
    · rw [if_neg h1]; exact c.snd _ (nth_mem hi)
  · obtain ⟨i, hi, rfl⟩ := List.mem_iff_getElem.1 hy
    rw [bump_len] at hi
    rw [← getSp (by rw [bump_len]; exact hi)]
    show (nth _ i).1 ≤ _
    rw [bump_first (by omega)]
    exact (c.fst _ (nth_mem hi)).2
  · rw [bump_val hlen c.up (by rw [c.hd]; exact ht), show a + (b - a) = b by omega, c.at_a, c.at_b, c.val]
    unfold addF
    cases hs : hasB x t with
    | true => rw [if_pos ((in_span hx ht).1 hs)]; rfl
    | false => rw [if_neg (fun h2 => by rw [(in_span hx ht).2 h2] at hs; cases hs)]; rfl
end
theorem add_early {s : List Sp} {x : Sp} {n : Int} (h : ¬ addBad s x n) (hx : x.2 ≤ max x.1 (head s)) : AddIs s x n s := by
  obtain ⟨_, hm, _⟩ := not_addBad h
  have := hm.2.1
  exact add_none h (by omega)
end Go.Proofs.Ytnjhboanhjjldaa.StepPlain
