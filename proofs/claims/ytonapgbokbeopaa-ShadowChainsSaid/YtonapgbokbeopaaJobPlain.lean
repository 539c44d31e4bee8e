/-
  The plain mathematics of layer 7: which texts are names, which jobs may be, what becomes of them, for how many times they ran.
-/
import Derived.Below
namespace Go.Proofs.Ytonapgbokbeopaa.JobPlain
/-- A job. -/
structure Jb where
  id : Int
  user : ByteArray
  width : Int
  est : Int
  prio : Int
  sub : Int
  state : Int
  start : Int
  fin : Int
def noJb : Jb := ⟨0, ⟨#[]⟩, 0, 0, 0, 0, 0, 0, 0⟩
def letB (c : UInt8) : Bool := decide (97 ≤ c.toNat) && decide (c.toNat ≤ 122)
def nameB (s : ByteArray) : Bool := s.data.toList.all letB && (decide (1 ≤ s.size) && decide (s.size ≤ 16))
def noneB (j : Jb) : Bool := (j.start == 0) && (j.fin == 0)
def ranB (j : Jb) : Bool := decide (j.sub ≤ j.start) && decide (j.start ≤ 1125899906842624)
def overB (j : Jb) : Bool := ranB j && decide (j.start ≤ j.fin) && decide (j.fin - j.start ≤ j.est)
def stateB (j : Jb) : Bool :=
  if j.state = 0 then noneB j else if j.state = 1 then noneB j else if j.state = 2 then ranB j && (j.fin == 0) else if j.state = 3 then overB j else
    if j.state = 4 then overB j && (j.fin - j.start == j.est) else if j.state = 5 then noneB j || overB j else false
def baseB (j : Jb) : Bool := !decide (j.id < 1) && !decide (1073741824 < j.id) && nameB j.user && !decide (j.width < 1) && !decide (256 < j.width) && !decide (j.est < 1) && !decide (1099511627776 < j.est) && !decide (j.prio < 0) && !decide (1000 < j.prio) &&
  !decide (j.sub < 0) && !decide (1125899906842624 < j.sub)
def mayJ (j : Jb) : Bool := baseB j && stateB j
/-- What is known of a job whose first fields may be. -/
structure Base (j : Jb) : Prop where
  id1 : 1 ≤ j.id
  id2 : j.id ≤ 1073741824
  name : nameB j.user = true
  w1 : 1 ≤ j.width
  w2 : j.width ≤ 256
  e1 : 1 ≤ j.est
  e2 : j.est ≤ 1099511627776
  p1 : 0 ≤ j.prio
  p2 : j.prio ≤ 1000
  s1 : 0 ≤ j.sub
  s2 : j.sub ≤ 1125899906842624
theorem base_iff (j : Jb) : baseB j = true ↔ Base j := by
  unfold baseB
  simp only [Bool.and_eq_true, Bool.not_eq_true', decide_eq_false_iff_not, Int.not_lt]
  exact ⟨fun ⟨⟨⟨⟨⟨⟨⟨⟨⟨⟨a, b⟩, c⟩, d⟩, e⟩, f⟩, g⟩, h⟩, i⟩, k⟩, l⟩ => ⟨a, b, c, d, e, f, g, h, i, k, l⟩, fun ⟨a, b, c, d, e, f, g, h, i, k, l⟩ => ⟨⟨⟨⟨⟨⟨⟨⟨⟨⟨a, b⟩, c⟩, d⟩, e⟩, f⟩, g⟩, h⟩, i⟩, k⟩, l⟩⟩
theorem base_ways (j : Jb) : (decide (j.id < 1) = true ∧ baseB j = false) ∨
    (decide (j.id < 1) = false ∧ decide (1073741824 < j.id) = true ∧ baseB j = false) ∨
    (decide (j.id < 1) = false ∧ decide (1073741824 < j.id) = false ∧ nameB j.user = false ∧ baseB j = false) ∨
    (decide (j.id < 1) = false ∧ decide (1073741824 < j.id) = false ∧ nameB j.user = true ∧ decide (j.width < 1) = true ∧ baseB j = false) ∨
    (decide (j.id < 1) = false ∧ decide (1073741824 < j.id) = false ∧ nameB j.user = true ∧ decide (j.width < 1) = false ∧ decide (256 < j.width) = true ∧ baseB j = false) ∨
    (decide (j.id < 1) = false ∧ decide (1073741824 < j.id) = false ∧ nameB j.user = true ∧ decide (j.width < 1) = false ∧ decide (256 < j.width) = false ∧ decide (j.est < 1) = true ∧ baseB j = false) ∨
    (decide (j.id < 1) = false ∧ decide (1073741824 < j.id) = false ∧ nameB j.user = true ∧ decide (j.width < 1) = false ∧ decide (256 < j.width) = false ∧ decide (j.est < 1) = false ∧ decide (1099511627776 < j.est) = true ∧ baseB j = false) ∨
    (decide (j.id < 1) = false ∧ decide (1073741824 < j.id) = false ∧ nameB j.user = true ∧ decide (j.width < 1) = false ∧ decide (256 < j.width) = false ∧ decide (j.est < 1) = false ∧ decide (1099511627776 < j.est) = false ∧ decide (j.prio < 0) = true ∧ baseB j = false) ∨
    (decide (j.id < 1) = false ∧ decide (1073741824 < j.id) = false ∧ nameB j.user = true ∧ decide (j.width < 1) = false ∧ decide (256 < j.width) = false ∧ decide (j.est < 1) = false ∧ decide (1099511627776 < j.est) = false ∧ decide (j.prio < 0) = false ∧ decide (1000 < j.prio) = true ∧ baseB j = false) ∨
    (decide (j.id < 1) = false ∧ decide (1073741824 < j.id) = false ∧ nameB j.user = true ∧ decide (j.width < 1) = false ∧ decide (256 < j.width) = false ∧ decide (j.est < 1) = false ∧ decide (1099511627776 < j.est) = false ∧ decide (j.prio < 0) = false ∧ decide (1000 < j.prio) = false ∧ decide (j.sub < 0) = true ∧ baseB j = false) ∨
    (decide (j.id < 1) = false ∧ decide (1073741824 < j.id) = false ∧ nameB j.user = true ∧ decide (j.width < 1) = false ∧ decide (256 < j.width) = false ∧ decide (j.est < 1) = false ∧ decide (1099511627776 < j.est) = false ∧ decide (j.prio < 0) = false ∧ decide (1000 < j.prio) = false ∧ decide (j.sub < 0) = false ∧ decide (1125899906842624 < j.sub) = true ∧ baseB j = false) ∨
    (decide (j.id < 1) = false ∧ decide (1073741824 < j.id) = false ∧ nameB j.user = true ∧ decide (j.width < 1) = false ∧ decide (256 < j.width) = false ∧ decide (j.est < 1) = false ∧ decide (1099511627776 < j.est) = false ∧ decide (j.prio < 0) = false ∧ decide (1000 < j.prio) = false ∧ decide (j.sub < 0) = false ∧ decide (1125899906842624 < j.sub) = false ∧ baseB j = true) := by
  unfold baseB
  cases h0 : decide (j.id < 1) with
  | true => exact .inl ⟨rfl, by simp⟩
  | false =>
    cases h1 : decide (1073741824 < j.id) with
    | true => exact .inr (.inl ⟨rfl, rfl, by simp⟩)
    | false =>
      cases h2 : nameB j.user with
      | false => exact .inr (.inr (.inl ⟨rfl, rfl, rfl, by simp⟩))
      | true =>
        cases h3 : decide (j.width < 1) with
        | true => exact .inr (.inr (.inr (.inl ⟨rfl, rfl, rfl, rfl, by simp⟩)))
        | false =>
          cases h4 : decide (256 < j.width) with
          | true => exact .inr (.inr (.inr (.inr (.inl ⟨rfl, rfl, rfl, rfl, rfl, by simp⟩))))
          | false =>
            cases h5 : decide (j.est < 1) with
            | true => exact .inr (.inr (.inr (.inr (.inr (.inl ⟨rfl, rfl, rfl, rfl, rfl, rfl, by simp⟩)))))
            | false =>
              cases h6 : decide (1099511627776 < j.est) with
              | true => exact .inr (.inr (.inr (.inr (.inr (.inr (.inl ⟨rfl, rfl, rfl, rfl, rfl, rfl, rfl, by simp⟩))))))
              | false =>
                cases h7 : decide (j.prio < 0) with
                | true => exact .inr (.inr (.inr (.inr (.inr (.inr (.inr (.inl ⟨rfl, rfl, rfl, rfl, rfl, rfl, rfl, rfl, by simp⟩)))))))
                | false =>
                  cases h8 : decide (1000 < j.prio) with
                  | true => exact .inr (.inr (.inr (.inr (.inr (.inr (.inr (.inr (.inl ⟨rfl, rfl, rfl, rfl, rfl, rfl, rfl, rfl, rfl, by simp⟩))))))))
                  | false =>
                    cases h9 : decide (j.sub < 0) with
                    | true => exact .inr (.inr (.inr (.inr (.inr (.inr (.inr (.inr (.inr (.inl ⟨rfl, rfl, rfl, rfl, rfl, rfl, rfl, rfl, rfl, rfl, by simp⟩)))))))))
                    | false =>
                      cases h10 : decide (1125899906842624 < j.sub) with
                      | true => exact .inr (.inr (.inr (.inr (.inr (.inr (.inr (.inr (.inr (.inr (.inl ⟨rfl, rfl, rfl, rfl, rfl, rfl, rfl, rfl, rfl, rfl, rfl, by simp⟩))))))))))
                      | false =>
                        exact .inr (.inr (.inr (.inr (.inr (.inr (.inr (.inr (.inr (.inr (.inr (⟨rfl, rfl, rfl, rfl, rfl, rfl, rfl, rfl, rfl, rfl, rfl, by simp⟩)))))))))))
theorem none_iff (j : Jb) : noneB j = true ↔ j.start = 0 ∧ j.fin = 0 := by unfold noneB; simp
theorem ran_iff (j : Jb) : ranB j = true ↔ j.sub ≤ j.start ∧ j.start ≤ 1125899906842624 := by unfold ranB; simp
theorem over_iff (j : Jb) : overB j = true ↔ (j.sub ≤ j.start ∧ j.start ≤ 1125899906842624) ∧ j.start ≤ j.fin ∧ j.fin - j.start ≤ j.est := by
  unfold overB ranB
  simp [and_assoc]
/-- Two bools behind each other, as '&&' goes. -/
theorem and_ways (a b : Bool) : (a = false ∧ (a && b) = false) ∨ (a = true ∧ b = false ∧ (a && b) = false) ∨ (a = true ∧ b = true ∧ (a && b) = true) := by cases a <;> cases b <;> simp
theorem or_ways (a b : Bool) : (a = true ∧ (a || b) = true) ∨ (a = false ∧ b = false ∧ (a || b) = false) ∨ (a = false ∧ b = true ∧ (a || b) = true) := by cases a <;> cases b <;> simp
/-- From which state, and to which one, something leads. -/
def fromS (ev s : Int) : Int := if ev = 1 then 1 else if ev = 2 then 0 else if ev = 3 then 1 else if ev = 4 then 2 else if ev = 5 then 2 else s
def toS (ev : Int) : Int := if ev = 1 then 0 else if ev = 2 then 1 else if ev = 3 then 2 else if ev = 4 then 3 else if ev = 5 then 4 else 5
def nextJ (j : Jb) (ev t : Int) : Jb := ⟨j.id, j.user, j.width, j.est, j.prio, j.sub, toS ev, if ev = 3 then t else j.start, if j.state = 2 then t else j.fin⟩
def turnArg (j : Jb) (ev t : Int) : Bool := !mayJ j || decide (ev < 1) || decide (6 < ev) || decide (t < j.sub) || decide (1125899906842624 < t)
def turnState (j : Jb) (ev : Int) : Bool := (j.state != fromS ev j.state) || ((ev == 6) && decide (2 < j.state))
def turnL (j : Jb) (ev t : Int) : Jb × Int :=
  if turnArg j ev t then (noJb, 1) else if turnState j ev then (noJb, 5) else if mayJ (nextJ j ev t) then (nextJ j ev t, 0) else (noJb, 1)
/-- For how many times a job ran ahead of a time. -/
def endJ (j : Jb) : Int := if j.state = 2 then j.start + j.est else j.fin
def ranL (j : Jb) (t : Int) : Int := if (if endJ j < t then endJ j else t) ≤ j.start then 0 else (if endJ j < t then endJ j else t) - j.start
def ranJ (j : Jb) (t : Int) : Int := if mayJ j then ranL j t else 0
def wordL (s : Int) : ByteArray :=
  if s = 0 then ⟨#[104, 101, 108, 100]⟩ else if s = 1 then ⟨#[113, 117, 101, 117, 101, 100]⟩ else if s = 2 then ⟨#[114, 117, 110, 110, 105, 110, 103]⟩ else if s = 3 then ⟨#[100, 111, 110, 101]⟩ else
    if s = 4 then ⟨#[107, 105, 108, 108, 101, 100]⟩ else if s = 5 then ⟨#[99, 97, 110, 99, 101, 108, 108, 101, 100]⟩ else ⟨#[]⟩
def liveB (j : Jb) : Bool := mayJ j && decide (j.state ≤ 2)
theorem may_base {j : Jb} (h : mayJ j = true) : Base j := (base_iff j).1 (by unfold mayJ at h; rw [Bool.and_eq_true] at h; exact h.1)
theorem may_state {j : Jb} (h : mayJ j = true) : stateB j = true := by unfold mayJ at h; rw [Bool.and_eq_true] at h; exact h.2
/-- What a job that may be is, by its state. -/
theorem state_ways {j : Jb} (h : stateB j = true) : ((j.state = 0 ∨ j.state = 1) ∧ j.start = 0 ∧ j.fin = 0) ∨ (j.state = 2 ∧ (j.sub ≤ j.start ∧ j.start ≤ 1125899906842624) ∧ j.fin = 0) ∨
    (j.state = 3 ∧ (j.sub ≤ j.start ∧ j.start ≤ 1125899906842624) ∧ j.start ≤ j.fin ∧ j.fin - j.start ≤ j.est) ∨
    (j.state = 4 ∧ (j.sub ≤ j.start ∧ j.start ≤ 1125899906842624) ∧ j.start ≤ j.fin ∧ j.fin - j.start = j.est) ∨
    (j.state = 5 ∧ ((j.start = 0 ∧ j.fin = 0) ∨ ((j.sub ≤ j.start ∧ j.start ≤ 1125899906842624) ∧ j.start ≤ j.fin ∧ j.fin - j.start ≤ j.est))) := by
  unfold stateB at h
  by_cases h0 : j.state = 0
  · rw [if_pos h0] at h; exact .inl ⟨.inl h0, (none_iff j).1 h⟩
  rw [if_neg h0] at h
  by_cases h1 : j.state = 1
  · rw [if_pos h1] at h; exact .inl ⟨.inr h1, (none_iff j).1 h⟩
  rw [if_neg h1] at h
  by_cases h2 : j.state = 2
  · rw [if_pos h2, Bool.and_eq_true, beq_iff_eq] at h; exact .inr (.inl ⟨h2, (ran_iff j).1 h.1, h.2⟩)
  rw [if_neg h2] at h
  by_cases h3 : j.state = 3
  · rw [if_pos h3] at h; exact .inr (.inr (.inl ⟨h3, (over_iff j).1 h⟩))
  rw [if_neg h3] at h
  by_cases h4 : j.state = 4
  · rw [if_pos h4, Bool.and_eq_true, beq_iff_eq] at h
    have := (over_iff j).1 h.1
    exact .inr (.inr (.inr (.inl ⟨h4, this.1, this.2.1, h.2⟩)))
  rw [if_neg h4] at h
  by_cases h5 : j.state = 5
  · rw [if_pos h5, Bool.or_eq_true] at h
    exact .inr (.inr (.inr (.inr ⟨h5, h.elim (fun h => .inl ((none_iff j).1 h)) (fun h => .inr ((over_iff j).1 h))⟩)))
  · rw [if_neg h5] at h; cases h
/-- A job that may be ends within what is small. -/
theorem may_fin {j : Jb} (h : mayJ j = true) : 0 ≤ j.fin ∧ j.fin ≤ 2251799813685248 ∧ 0 ≤ j.start ∧ j.start ≤ 1125899906842624 ∧ 0 ≤ j.state ∧ j.state ≤ 5 ∧ j.fin - j.start ≤ j.est := by
  have hb := may_base h
  have := hb.s1
  have := hb.e1
  have := hb.e2
  rcases state_ways (may_state h) with ⟨a, b⟩ | ⟨a, b, c⟩ | ⟨a, b, c⟩ | ⟨a, b, c⟩ | ⟨a, b | ⟨b, c⟩⟩ <;> omega
/-- What is turned. -/
theorem turn_ok {j x : Jb} {ev t : Int} (h : turnL j ev t = (x, 0)) : mayJ j = true ∧ x = nextJ j ev t ∧ mayJ x = true ∧ j.state = fromS ev j.state ∧ 1 ≤ ev ∧ ev ≤ 6 ∧ j.state ≤ 2 := by
  unfold turnL at h
  cases ha : turnArg j ev t with
  | true => rw [ha, if_pos rfl] at h; injection h with _ h; exact absurd h (by decide)
  | false =>
    rw [ha, if_neg (by decide)] at h
    cases hs : turnState j ev with
    | true => rw [hs, if_pos rfl] at h; injection h with _ h; exact absurd h (by decide)
    | false =>
      rw [hs, if_neg (by decide)] at h
      cases hm : mayJ (nextJ j ev t) with
      | false => rw [hm, if_neg (by decide)] at h; injection h with _ h; exact absurd h (by decide)
      | true =>
        rw [hm, if_pos rfl] at h
        injection h with h _
        unfold turnArg at ha
        simp only [Bool.or_eq_false_iff, Bool.not_eq_false', decide_eq_false_iff_not] at ha
        unfold turnState at hs
        simp only [Bool.or_eq_false_iff, bne_eq_false_iff_eq, Bool.and_eq_false_iff, beq_eq_false_iff_ne, decide_eq_false_iff_not] at hs
        obtain ⟨⟨⟨⟨a1, a2⟩, a3⟩, a4⟩, a5⟩ := ha
        obtain ⟨s1, s2⟩ := hs
        subst h
        refine ⟨a1, rfl, hm, s1, by omega, by omega, ?_⟩
        unfold fromS at s1
        split at s1
        · omega
        split at s1
        · omega
        split at s1
        · omega
        split at s1
        · omega
        split at s1
        · omega
        · omega
/-- It keeps who it is; it starts from where it had not started. -/
theorem turn_keeps {j x : Jb} {ev t : Int} (h : turnL j ev t = (x, 0)) : x.id = j.id ∧ x.width = j.width ∧ x.fin - x.start ≤ x.est ∧ j.state ≤ 2 ∧ mayJ x = true ∧ (x.state = 2 → j.state ≤ 1) ∧ (2 ≤ j.state → 2 < x.state) := by
  obtain ⟨h1, rfl, h3, h4, h5, h6, h7⟩ := turn_ok h
  refine ⟨rfl, rfl, (may_fin h3).2.2.2.2.2.2, h7, h3, fun hx => ?_, fun hj => ?_⟩
  · unfold nextJ toS at hx
    dsimp only at hx
    unfold fromS at h4
    split at hx
    · omega
    split at hx
    · omega
    split at hx
    · rename_i a b c; rw [if_neg a, if_neg b, if_pos c] at h4; omega
    split at hx
    · omega
    split at hx <;> omega
  · unfold nextJ toS
    dsimp only
    unfold fromS at h4
    split
    · rename_i a; rw [if_pos a] at h4; omega
    split
    · rename_i a b; rw [if_neg a, if_pos b] at h4; omega
    split
    · rename_i a b c; rw [if_neg a, if_neg b, if_pos c] at h4; omega
    split
    · omega
    split <;> omega
end Go.Proofs.Ytonapgbokbeopaa.JobPlain
