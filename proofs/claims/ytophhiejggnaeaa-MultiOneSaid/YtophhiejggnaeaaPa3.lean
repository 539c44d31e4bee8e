/-
  What the theorem uses of the texts below it.
-/
import Derived.Below
import Derived.Laws.OwnMore
import Derived.Deep.Draws
import Derived.Deep.OwnRows
import Derived.Lib.Hide
import Derived.OwnWalk
import Derived.Deep.QuietTactic
import Derived.BigQuiet
import Derived.Lib.SliceRun
import Derived.Test.YtophhiejggnaeaaRows
import Derived.WalkKit
import Derived.WalkSpells
import Derived.WalkLawsBesides
import Derived.Laws.StructEq
import Derived.LoopTactic
import Derived.Deep.CutBlock
import Derived.Deep.DeepCutAuto
import Derived.Test.YtophhiejggnaeaaPa2
namespace Go.Proofs.Ytophhiejggnaeaa.JobPlain
/-- A job. -/
structure Jb where
  id : Int
  user : ByteArray
  width : Int
  est : Int
  prio : Int
  sub : Int
  state : Int
  start : Int
  fin : Int
def noJb : Jb := ⟨0, ⟨#[]⟩, 0, 0, 0, 0, 0, 0, 0⟩
def letB (c : UInt8) : Bool := decide (97 ≤ c.toNat) && decide (c.toNat ≤ 122)
def nameB (s : ByteArray) : Bool := s.data.toList.all letB && (decide (1 ≤ s.size) && decide (s.size ≤ 16))
def noneB (j : Jb) : Bool := (j.start == 0) && (j.fin == 0)
def ranB (j : Jb) : Bool := decide (j.sub ≤ j.start) && decide (j.start ≤ 1125899906842624)
def overB (j : Jb) : Bool := ranB j && decide (j.start ≤ j.fin) && decide (j.fin - j.start ≤ j.est)
def stateB (j : Jb) : Bool :=
  if j.state = 0 then noneB j else if j.state = 1 then noneB j else if j.state = 2 then ranB j && (j.fin == 0) else if j.state = 3 then overB j else
    if j.state = 4 then overB j && (j.fin - j.start == j.est) else if j.state = 5 then noneB j || overB j else false
def baseB (j : Jb) : Bool := !decide (j.id < 1) && !decide (1073741824 < j.id) && nameB j.user && !decide (j.width < 1) && !decide (256 < j.width) && !decide (j.est < 1) && !decide (1099511627776 < j.est) && !decide (j.prio < 0) && !decide (1000 < j.prio) &&
  !decide (j.sub < 0) && !decide (1125899906842624 < j.sub)
def mayJ (j : Jb) : Bool := baseB j && stateB j
/-- What is known of a job whose first fields may be. -/
structure Base (j : Jb) : Prop where
  id1 : 1 ≤ j.id
  id2 : j.id ≤ 1073741824
  name : nameB j.user = true
  w1 : 1 ≤ j.width
  w2 : j.width ≤ 256
  e1 : 1 ≤ j.est
  e2 : j.est ≤ 1099511627776
  p1 : 0 ≤ j.prio
  p2 : j.prio ≤ 1000
  s1 : 0 ≤ j.sub
  s2 : j.sub ≤ 1125899906842624
theorem base_iff (j : Jb) : baseB j = true ↔ Base j := by
  unfold baseB
  simp only [Bool.and_eq_true, Bool.not_eq_true', decide_eq_false_iff_not, Int.not_lt]
  exact ⟨fun ⟨⟨⟨⟨⟨⟨⟨⟨⟨⟨a, b⟩, c⟩, d⟩, e⟩, f⟩, g⟩, h⟩, i⟩, k⟩, l⟩ => ⟨a, b, c, d, e, f, g, h, i, k, l⟩, fun ⟨a, b, c, d, e, f, g, h, i, k, l⟩ => ⟨⟨⟨⟨⟨⟨⟨⟨⟨⟨a, b⟩, c⟩, d⟩, e⟩, f⟩, g⟩, h⟩, i⟩, k⟩, l⟩⟩
theorem base_ways (j : Jb) : (decide (j.id < 1) = true ∧ baseB j = false) ∨
    (decide (j.id < 1) = false ∧ decide (1073741824 < j.id) = true ∧ baseB j = false) ∨
    (decide (j.id < 1) = false ∧ decide (1073741824 < j.id) = false ∧ nameB j.user = false ∧ baseB j = false) ∨
    (decide (j.id < 1) = false ∧ decide (1073741824 < j.id) = false ∧ nameB j.user = true ∧ decide (j.width < 1) = true ∧ baseB j = false) ∨
    (decide (j.id < 1) = false ∧ decide (1073741824 < j.id) = false ∧ nameB j.user = true ∧ decide (j.width < 1) = false ∧ decide (256 < j.width) = true ∧ baseB j = false) ∨
    (decide (j.id < 1) = false ∧ decide (1073741824 < j.id) = false ∧ nameB j.user = true ∧ decide (j.width < 1) = false ∧ decide (256 < j.width) = false ∧ decide (j.est < 1) = true ∧ baseB j = false) ∨
    (decide (j.id < 1) = false ∧ decide (1073741824 < j.id) = false ∧ nameB j.user = true ∧ decide (j.width < 1) = false ∧ decide (256 < j.width) = false ∧ decide (j.est < 1) = false ∧ decide (1099511627776 < j.est) = true ∧ baseB j = false) ∨
    (decide (j.id < 1) = false ∧ decide (1073741824 < j.id) = false ∧ nameB j.user = true ∧ decide (j.width < 1) = false ∧ decide (256 < j.width) = false ∧ decide (j.est < 1) = false ∧ decide (1099511627776 < j.est) = false ∧ decide (j.prio < 0) = true ∧ baseB j = false) ∨
    (decide (j.id < 1) = false ∧ decide (1073741824 < j.id) = false ∧ nameB j.user = true ∧ decide (j.width < 1) = false ∧ decide (256 < j.width) = false ∧ decide (j.est < 1) = false ∧ decide (1099511627776 < j.est) = false ∧ decide (j.prio < 0) = false ∧ decide (1000 < j.prio) = true ∧ baseB j = false) ∨
    (decide (j.id < 1) = false ∧ decide (1073741824 < j.id) = false ∧ nameB j.user = true ∧ decide (j.width < 1) = false ∧ decide (256 < j.width) = false ∧ decide (j.est < 1) = false ∧ decide (1099511627776 < j.est) = false ∧ decide (j.prio < 0) = false ∧ decide (1000 < j.prio) = false ∧ decide (j.sub < 0) = true ∧ baseB j = false) ∨
    (decide (j.id < 1) = false ∧ decide (1073741824 < j.id) = false ∧ nameB j.user = true ∧ decide (j.width < 1) = false ∧ decide (256 < j.width) = false ∧ decide (j.est < 1) = false ∧ decide (1099511627776 < j.est) = false ∧ decide (j.prio < 0) = false ∧ decide (1000 < j.prio) = false ∧ decide (j.sub < 0) = false ∧ decide (1125899906842624 < j.sub) = true ∧ baseB j = false) ∨
    (decide (j.id < 1) = false ∧ decide (1073741824 < j.id) = false ∧ nameB j.user = true ∧ decide (j.width < 1) = false ∧ decide (256 < j.width) = false ∧ decide (j.est < 1) = false ∧ decide (1099511627776 < j.est) = false ∧ decide (j.prio < 0) = false ∧ decide (1000 < j.prio) = false ∧ decide (j.sub < 0) = false ∧ decide (1125899906842624 < j.sub) = false ∧ baseB j = true) := by
  unfold baseB
  cases h0 : decide (j.id < 1) with
  | true => exact .inl ⟨rfl, by simp⟩
  | false =>
    cases h1 : decide (1073741824 < j.id) with
    | true => exact .inr (.inl ⟨rfl, rfl, by simp⟩)
    | false =>
      cases h2 : nameB j.user with
      | false => exact .inr (.inr (.inl ⟨rfl, rfl, rfl, by simp⟩))
      | true =>
        cases h3 : decide (j.width < 1) with
        | true => exact .inr (.inr (.inr (.inl ⟨rfl, rfl, rfl, rfl, by simp⟩)))
        | false =>
          cases h4 : decide (256 < j.width) with
          | true => exact .inr (.inr (.inr (.inr (.inl ⟨rfl, rfl, rfl, rfl, rfl, by simp⟩))))
          | false =>
            cases h5 : decide (j.est < 1) with
            | true => exact .inr (.inr (.inr (.inr (.inr (.inl ⟨rfl, rfl, rfl, rfl, rfl, rfl, by simp⟩)))))
            | false =>
              cases h6 : decide (1099511627776 < j.est) with
              | true => exact .inr (.inr (.inr (.inr (.inr (.inr (.inl ⟨rfl, rfl, rfl, rfl, rfl, rfl, rfl, by simp⟩))))))
              | false =>
                cases h7 : decide (j.prio < 0) with
                | true => exact .inr (.inr (.inr (.inr (.inr (.inr (.inr (.inl ⟨rfl, rfl, rfl, rfl, rfl, rfl, rfl, rfl, by simp⟩)))))))
                | false =>
                  cases h8 : decide (1000 < j.prio) with
                  | true => exact .inr (.inr (.inr (.inr (.inr (.inr (.inr (.inr (.inl ⟨rfl, rfl, rfl, rfl, rfl, rfl, rfl, rfl, rfl, by simp⟩))))))))
                  | false =>
                    cases h9 : decide (j.sub < 0) with
                    | true => exact .inr (.inr (.inr (.inr (.inr (.inr (.inr (.inr (.inr (.inl ⟨rfl, rfl, rfl, rfl, rfl, rfl, rfl, rfl, rfl, rfl, by simp⟩)))))))))
                    | false =>
                      cases h10 : decide (1125899906842624 < j.sub) with
                      | true => exact .inr (.inr (.inr (.inr (.inr (.inr (.inr (.inr (.inr (.inr (.inl ⟨rfl, rfl, rfl, rfl, rfl, rfl, rfl, rfl, rfl, rfl, rfl, by simp⟩))))))))))
                      | false =>
                        exact .inr (.inr (.inr (.inr (.inr (.inr (.inr (.inr (.inr (.inr (.inr (⟨rfl, rfl, rfl, rfl, rfl, rfl, rfl, rfl, rfl, rfl, rfl, by simp⟩)))))))))))
theorem ran_iff (j : Jb) : ranB j = true ↔ j.sub ≤ j.start ∧ j.start ≤ 1125899906842624 := by unfold ranB; simp
/-- Two bools behind each other, as '&&' goes. -/
theorem and_ways (a b : Bool) : (a = false ∧ (a && b) = false) ∨ (a = true ∧ b = false ∧ (a && b) = false) ∨ (a = true ∧ b = true ∧ (a && b) = true) := by cases a <;> cases b <;> simp
theorem may_base {j : Jb} (h : mayJ j = true) : Base j := (base_iff j).1 (by unfold mayJ at h; rw [Bool.and_eq_true] at h; exact h.1)
end Go.Proofs.Ytophhiejggnaeaa.JobPlain
namespace Go.Proofs.Ytophhiejggnaeaa.ShaPlain
open Go.Proofs.Ytophhiejggnaeaa.SpanPlain Go.Proofs.Ytophhiejggnaeaa.StepPlain Go.Proofs.Ytophhiejggnaeaa.GapPlain Go.Proofs.Ytophhiejggnaeaa.JobPlain
/-- How a job lies from a time on. -/
def runS (a : Int) (j : Jb) : Sp := (a, a + j.est)
/-- What Of tells: the shadow, the spare, is there one. -/
def ShIs (s : List Sp) (now : Int) (j : Jb) (a spare : Int) (ok : Bool) : Prop := FitIs s now j.width j.est a ok ∧ spare = if ok = true then val s a - j.width else 0
theorem room_may {s : List Sp} {a : Int} {j : Jb} (h : okG s a j.width j.est = true) : Chk s ∧ (1 ≤ j.width ∧ j.width ≤ 256) ∧ (1 ≤ j.est ∧ j.est ≤ 1099511627776) ∧ head s ≤ a ∧ 0 ≤ a ∧ a ≤ 1125899906842624 ∧ May (runS a j) ∧ ¬ addBad s (runS a j) (-j.width) ∧ ¬ addOut s (runS a j) (-j.width) := by
  obtain ⟨hm, hroom⟩ := okG_iff.1 h
  obtain ⟨hc, hww, he1, he2⟩ := mayG_iff.1 hm
  have h1 := hroom.1
  have h2 := hroom.2.1
  have h0 := hc.lo
  have hx : May (runS a j) := ⟨by show (0 : Int) ≤ a; omega, by show a < a + j.est; omega, by show a + j.est ≤ _; omega⟩
  have hin : ∀ u, hasB (runS a j) u = true ↔ a ≤ u ∧ u < a + j.est := fun u => by
    rw [hasB_iff]
    exact ⟨fun q => q.2, fun q => ⟨hx, q⟩⟩
  refine ⟨hc, hww, ⟨he1, he2⟩, h1, by omega, h2, hx, ?_, ?_⟩
  · rintro (q | q | q | q)
    · exact chk_false q hc
    · rw [(mayB_iff _).2 hx] at q; cases q
    · omega
    · omega
  · rintro ⟨u, hu, ho⟩
    apply ho
    have hv := hc.val_free (t := u) hu
    unfold addF
    by_cases hcu : hasB (runS a j) u = true
    · have := hroom.2.2 u ((hin u).1 hcu).1 ((hin u).1 hcu).2
      rw [if_pos hcu]; omega
    · rw [if_neg hcu]; exact hv
theorem lay_rep {s r : List Sp} {a : Int} {j : Jb} (h : okG s a j.width j.est = true) (hr : AddIs s (runS a j) (-j.width) r) : Rep r (head s) (addF s (runS a j) (-j.width)) := by
  obtain ⟨_, _, _, _, _, _, _, hnb, hno⟩ := room_may h
  rcases hr with ⟨hb, _⟩ | ⟨_, ho, _⟩ | ⟨_, hrep⟩
  · exact absurd hb hnb
  · exact absurd ho hno
  · exact hrep
/-- What Lay tells. -/
def LayIs (s : List Sp) (a : Int) (j : Jb) (r : List Sp) (ok : Bool) : Prop := (okG s a j.width j.est = true ∧ ok = true ∧ AddIs s (runS a j) (-j.width) r) ∨ (okG s a j.width j.est = false ∧ ok = false ∧ r = [])
theorem rise_nodup {e : List Int} (h : Rise e) : e.Nodup := List.Pairwise.imp (fun h => Int.ne_of_lt h) h
theorem add_len {s r : List Sp} {x : Sp} {n : Int} (h : AddIs s x n r) : r.length ≤ s.length + 3 := by
  rcases h with ⟨_, rfl⟩ | ⟨_, _, rfl⟩ | ⟨hb, hr⟩
  · exact Nat.zero_le _
  · exact Nat.zero_le _
  · obtain ⟨hc, hx, _, _⟩ := not_addBad hb
    have hf : ∀ e ∈ addEnds s x, 0 ≤ addF s x n e ∧ addF s x n e ≤ 256 := fun e he => by
      have h1 := ((keep_iff hc).1 (List.mem_filter.1 he).2).1
      by_cases hh : 0 ≤ addF s x n e ∧ addF s x n e ≤ 256
      · exact hh
      · exact absurd ⟨e, h1, hh⟩ (rep_fits hr)
    have e := AddIs.unique (add_done hb hf) (.inr (.inr ⟨hb, hr⟩))
    rw [← e]
    refine Nat.le_trans (build_len _ _) ?_
    have h1 := List.length_filter_le (keepB s x) (endsL (addSpans s x))
    have hs := ends_spec (addSpans s x)
    have h2 : (endsL (addSpans s x)).length ≤ (x.1 :: x.2 :: 4503599627370496 :: s.map (·.1)).length := by
      refine sub_len _ _ (rise_nodup hs.1) fun z hz => ?_
      obtain ⟨y, hy, _, hzy⟩ := (hs.2.1 z).1 hz
      rcases List.mem_cons.1 hy with rfl | hy
      · rcases hzy with rfl | rfl <;> simp
      · obtain ⟨p, hp, rfl⟩ := List.mem_map.1 hy
        rcases hzy with rfl | rfl
        · simp only [List.mem_cons, List.mem_map]; exact .inr (.inr (.inr ⟨p, hp, rfl⟩))
        · simp
    simp only [List.length_cons, List.length_map] at h2
    show ((endsL (addSpans s x)).filter (keepB s x)).length ≤ _
    omega
end Go.Proofs.Ytophhiejggnaeaa.ShaPlain
namespace Go.Proofs.Ytophhiejggnaeaa.ApiPlain
structure Cl where
  name : ByteArray
  minW : Int
  maxW : Int
  minE : Int
  maxE : Int
def noCl : Cl := ⟨⟨#[]⟩, 0, 0, 0, 0⟩
structure ClFit (x : Cl) : Prop where
  f0 : x.name.size ≤ 9223372036854775807
  f1 : -9223372036854775808 ≤ x.minW ∧ x.minW ≤ 9223372036854775807
  f2 : -9223372036854775808 ≤ x.maxW ∧ x.maxW ≤ 9223372036854775807
  f3 : -9223372036854775808 ≤ x.minE ∧ x.minE ≤ 9223372036854775807
  f4 : -9223372036854775808 ≤ x.maxE ∧ x.maxE ≤ 9223372036854775807
structure Prm where
  id : Int
  at_ : Int
  slack : Int
end Go.Proofs.Ytophhiejggnaeaa.ApiPlain
namespace Go.Proofs.Ytophhiejggnaeaa.OrdPlain
open Go.Proofs.Ytophhiejggnaeaa.JobPlain
/-- The place of an Id. -/
def findTo (l : List Jb) (id : Int) : Option Nat := l.findIdx? (fun j => j.id == id)
def findL (l : List Jb) (id : Int) : Int := match findTo l id with | some i => i | none => -1
theorem find_at {l : List Jb} {id : Int} {k : Nat} (hk : k < l.length) (h : ∀ i (hi : i < l.length), i < k → (l[i].id == id) = false) (hx : (l[k].id == id) = true) : findL l id = k := by
  unfold findL findTo
  have : l.findIdx? (fun j => j.id == id) = some k := by
    rw [List.findIdx?_eq_some_iff_getElem]
    exact ⟨hk, hx, fun i hi => by simpa using h i (by omega) hi⟩
  rw [this]
theorem find_none {l : List Jb} {id : Int} (h : ∀ i (hi : i < l.length), (l[i].id == id) = false) : findL l id = -1 := by
  unfold findL findTo
  have : l.findIdx? (fun j => j.id == id) = none := by
    rw [List.findIdx?_eq_none_iff]
    intro x hx
    obtain ⟨i, hi, rfl⟩ := List.mem_iff_getElem.1 hx
    exact h i hi
  rw [this]
end Go.Proofs.Ytophhiejggnaeaa.OrdPlain
namespace Go.Proofs.Ytophhiejggnaeaa.SlaPlain
open Go.Proofs.Ytophhiejggnaeaa.SpanPlain Go.Proofs.Ytophhiejggnaeaa.StepPlain Go.Proofs.Ytophhiejggnaeaa.GapPlain Go.Proofs.Ytophhiejggnaeaa.JobPlain Go.Proofs.Ytophhiejggnaeaa.OrdPlain Go.Proofs.Ytophhiejggnaeaa.ApiPlain Go.Proofs.Ytophhiejggnaeaa.ShaPlain
/-- The steps with a job laid from a time on, as a function. -/
def layL (s : List Sp) (a : Int) (j : Jb) : List Sp := buildL (addF s (runS a j) (-j.width)) (addEnds s (runS a j))
theorem layL_is {s : List Sp} {a : Int} {j : Jb} (h : okG s a j.width j.est = true) : AddIs s (runS a j) (-j.width) (layL s a j) := by
  obtain ⟨hc, _, _, _, _, _, hx, hnb, hno⟩ := room_may h
  refine add_done hnb fun e he => ?_
  have h1 := ((keep_iff hc).1 (List.mem_filter.1 he).2).1
  by_cases hh : 0 ≤ addF s (runS a j) (-j.width) e ∧ addF s (runS a j) (-j.width) e ≤ 256
  · exact hh
  · exact absurd ⟨e, h1, hh⟩ hno
theorem layL_of {s r : List Sp} {a : Int} {j : Jb} (h : okG s a j.width j.est = true) (hr : AddIs s (runS a j) (-j.width) r) : r = layL s a j := AddIs.unique hr (layL_is h)
theorem layL_len {s : List Sp} {a : Int} {j : Jb} (h : okG s a j.width j.est = true) : (layL s a j).length ≤ s.length + 3 := add_len (layL_is h)
theorem layL_chk {s : List Sp} {a : Int} {j : Jb} (h : okG s a j.width j.est = true) : Chk (layL s a j) ∧ head (layL s a j) = head s := by
  obtain ⟨h1, h2, _⟩ := lay_rep h (layL_is h)
  exact ⟨h1, h2⟩
/-- The least time with room, as a function; -1: none. -/
def fitF (s : List Sp) (now : Int) (j : Jb) : Int := if mayG s j.width j.est = true then fitL s now j.width j.est else -1
theorem fitStepNeg {s : List Sp} {f w n : Int} : ∀ {l : List Sp}, (∀ y ∈ l, 0 ≤ y.1) → 0 ≤ fitStep s f w n l ∨ fitStep s f w n l = -1
  | [], _ => .inr rfl
  | y :: l, h => by
    unfold fitStep
    split
    · exact .inl (h y (List.mem_cons_self ..))
    · exact fitStepNeg fun z hz => h z (List.mem_cons_of_mem _ hz)
theorem fitF_cases (s : List Sp) (now : Int) (j : Jb) : (fitF s now j = -1 ∧ FitIs s now j.width j.est 0 false) ∨ (0 ≤ fitF s now j ∧ FitIs s now j.width j.est (fitF s now j) true) := by
  unfold fitF
  cases hm : mayG s j.width j.est with
  | false => exact .inl ⟨rfl, .inr ⟨rfl, rfl, .inl hm⟩⟩
  | true =>
    rw [if_pos rfl]
    obtain ⟨hc, _, _, _⟩ := mayG_iff.1 hm
    have hlo := hc.lo
    have hge := hc.ge
    obtain ⟨h1, h2⟩ := fit_spec (f := now) hm
    have hn : 0 ≤ fitL s now j.width j.est ∨ fitL s now j.width j.est = -1 := by
      unfold fitL
      split
      · exact .inr rfl
      · split
        · exact .inl (by omega)
        · exact fitStepNeg fun y hy => by have := hge y hy; omega
    rcases hn with hn | hn
    · exact .inr ⟨hn, h1 hn⟩
    · exact .inl ⟨hn, h2 (by omega)⟩
theorem fitF_ok {s : List Sp} {now : Int} {j : Jb} (h : 0 ≤ fitF s now j) : okG s (fitF s now j) j.width j.est = true ∧ now ≤ fitF s now j ∧ fitF s now j ≤ 1125899906842624 := by
  rcases fitF_cases s now j with ⟨h1, _⟩ | ⟨_, h1⟩
  · omega
  · rcases h1 with ⟨_, hm, hge, hr, _⟩ | ⟨h, _⟩
    · exact ⟨okG_iff.2 ⟨hm, hr⟩, hge, hr.2.1⟩
    · cases h
/-- A promise that gave way. -/
structure Shift (p q : Prm) : Prop where
  id : q.id = p.id
  later : p.at_ ≤ q.at_
  sum : q.at_ + q.slack = p.at_ + p.slack
  left : 0 ≤ q.slack
theorem Shift.trans {p q r : Prm} (a : Shift p q) (b : Shift q r) : Shift p r := ⟨b.id.trans a.id, Int.le_trans a.later b.later, b.sum.trans a.sum, b.left⟩
inductive All2 : List Prm → List Prm → Prop
  | nil : All2 [] []
  | cons {p q : Prm} {l m : List Prm} : Shift p q → All2 l m → All2 (p :: l) (q :: m)
theorem All2.trans {l m n : List Prm} (a : All2 l m) (b : All2 m n) : All2 l n := by
  induction a generalizing n with
  | nil => cases b; exact .nil
  | cons h _ ih => cases b with | cons g r => exact .cons (h.trans g) (ih r)
theorem All2.filter {l m : List Prm} (a : All2 l m) (f : Int → Bool) : All2 (l.filter fun p => f p.id) (m.filter fun p => f p.id) := by
  induction a with
  | nil => exact .nil
  | @cons p q l m h _ ih =>
    rw [List.filter_cons, List.filter_cons, h.id]
    split
    · exact .cons h ih
    · exact ih
theorem All2.ids {l m : List Prm} (a : All2 l m) : m.map (·.id) = l.map (·.id) := by
  induction a with
  | nil => rfl
  | cons h _ ih => simp [h.id, ih]
theorem All2.slack {l m : List Prm} (a : All2 l m) : ∀ q ∈ m, 0 ≤ q.slack := by
  induction a with
  | nil => intro q hq; cases hq
  | cons h _ ih =>
    intro q hq
    rcases List.mem_cons.1 hq with rfl | hq
    · exact h.left
    · exact ih q hq
end Go.Proofs.Ytophhiejggnaeaa.SlaPlain
namespace Go.Proofs.Ytophhiejggnaeaa.TogPlain
open Go.Proofs.Ytophhiejggnaeaa.SpanPlain Go.Proofs.Ytophhiejggnaeaa.StepPlain Go.Proofs.Ytophhiejggnaeaa.GapPlain Go.Proofs.Ytophhiejggnaeaa.JobPlain Go.Proofs.Ytophhiejggnaeaa.OrdPlain Go.Proofs.Ytophhiejggnaeaa.ApiPlain Go.Proofs.Ytophhiejggnaeaa.ShaPlain Go.Proofs.Ytophhiejggnaeaa.SlaPlain
/-- How many processors of one that is laid, at a time. -/
def oneT (x : Int × Jb) (t : Int) : Int := if x.1 ≤ t ∧ t < x.1 + x.2.est then x.2.width else 0
def covT : List (Int × Jb) → Int → Int
  | [], _ => 0
  | x :: l, t => oneT x t + covT l t
theorem cov_cons (x : Int × Jb) (l : List (Int × Jb)) (t : Int) : covT (x :: l) t = oneT x t + covT l t := rfl
theorem cov_perm {l m : List (Int × Jb)} (h : l.Perm m) (t : Int) : covT l t = covT m t := by
  induction h with
  | nil => rfl
  | cons x _ ih => rw [cov_cons, cov_cons, ih]
  | swap x y l => simp only [cov_cons]; omega
  | trans _ _ ih1 ih2 => rw [ih1, ih2]
/-- May one be laid at all? -/
structure MayT (s : List Sp) (x : Int × Jb) : Prop where
  w1 : 1 ≤ x.2.width
  w2 : x.2.width ≤ 256
  e1 : 1 ≤ x.2.est
  e2 : x.2.est ≤ 1099511627776
  lo : head s ≤ x.1
  hi : x.1 ≤ 1125899906842624
theorem one_pos {s : List Sp} {x : Int × Jb} (h : MayT s x) (t : Int) : 0 ≤ oneT x t := by
  unfold oneT
  have := h.w1
  split <;> omega
theorem cov_pos {s : List Sp} : ∀ {l : List (Int × Jb)}, (∀ x ∈ l, MayT s x) → ∀ t, 0 ≤ covT l t
  | [], _, _ => Int.le_refl _
  | x :: l, h, t => by
    unfold covT
    have h1 := one_pos (h x (List.mem_cons_self ..)) t
    have h2 := cov_pos (fun y hy => h y (List.mem_cons_of_mem _ hy)) t
    omega
/-- All have room together. -/
structure Tog (s : List Sp) (l : List (Int × Jb)) : Prop where
  chk : Chk s
  may : ∀ x ∈ l, MayT s x
  room : ∀ t, head s ≤ t → covT l t ≤ val s t
theorem Tog.nil {s : List Sp} (h : Chk s) : Tog s [] := ⟨h, (fun _ h => by cases h), fun t ht => (h.val_free (t := t) ht).1⟩
theorem Tog.perm {s : List Sp} {l m : List (Int × Jb)} (h : Tog s l) (hp : l.Perm m) : Tog s m :=
  ⟨h.chk, fun x hx => h.may x (hp.mem_iff.2 hx), fun t ht => by rw [← cov_perm hp t]; exact h.room t ht⟩
theorem Tog.tail {s : List Sp} {x : Int × Jb} {l : List (Int × Jb)} (h : Tog s (x :: l)) : Tog s l :=
  ⟨h.chk, fun y hy => h.may y (List.mem_cons_of_mem _ hy), fun t ht => by
    have h1 := h.room t ht
    have h2 := one_pos (h.may x (List.mem_cons_self ..)) t
    unfold covT at h1
    omega⟩
theorem Tog.ok {s : List Sp} {x : Int × Jb} {l : List (Int × Jb)} (h : Tog s (x :: l)) : okG s x.1 x.2.width x.2.est = true := by
  have hm := h.may x (List.mem_cons_self ..)
  refine okG_iff.2 ⟨mayG_iff.2 ⟨h.chk, ⟨hm.w1, hm.w2⟩, hm.e1, hm.e2⟩, hm.lo, hm.hi, fun t h1 h2 => ?_⟩
  have h3 := h.room t (Int.le_trans hm.lo h1)
  have h4 := cov_pos h.tail.may t
  unfold covT oneT at h3
  rw [if_pos ⟨h1, h2⟩] at h3
  omega
theorem lay_val {s : List Sp} {a : Int} {j : Jb} (h : okG s a j.width j.est = true) {t : Int} (ht : head s ≤ t) : val (layL s a j) t = val s t - oneT (a, j) t := by
  obtain ⟨_, _, _, _, _, _, hx, _, _⟩ := room_may h
  obtain ⟨_, _, g3⟩ := lay_rep h (layL_is h)
  rw [g3 t ht]
  unfold addF oneT
  by_cases hb : hasB (runS a j) t = true
  · rw [if_pos hb]
    rw [hasB_iff] at hb
    have hb1 : a ≤ t ∧ t < a + j.est := ⟨hb.2.1, hb.2.2⟩
    rw [if_pos hb1]
    show val s t + -j.width = val s t - j.width
    omega
  · rw [if_neg hb]
    rw [if_neg]
    · omega
    · intro hc
      exact hb (hasB_iff.2 ⟨hx, hc.1, hc.2⟩)
theorem may_laid {s : List Sp} {a : Int} {j : Jb} (h : okG s a j.width j.est = true) {x : Int × Jb} : MayT (layL s a j) x ↔ MayT s x := by
  have hh := (layL_chk h).2
  constructor
  · rintro ⟨a1, a2, a3, a4, a5, a6⟩; exact ⟨a1, a2, a3, a4, by omega, a6⟩
  · rintro ⟨a1, a2, a3, a4, a5, a6⟩; exact ⟨a1, a2, a3, a4, by omega, a6⟩
theorem Tog.next {s : List Sp} {x : Int × Jb} {l : List (Int × Jb)} (h : Tog s (x :: l)) : Tog (layL s x.1 x.2) l := by
  have hk := h.ok
  obtain ⟨h1, h2⟩ := layL_chk hk
  refine ⟨h1, fun y hy => (may_laid hk).2 (h.may y (List.mem_cons_of_mem _ hy)), fun t ht => ?_⟩
  rw [h2] at ht
  rw [lay_val hk ht]
  have h3 := h.room t ht
  have e : oneT (x.1, x.2) t = oneT x t := rfl
  rw [e]
  unfold covT at h3
  omega
theorem Tog.back {s : List Sp} {a : Int} {j : Jb} {l : List (Int × Jb)} (hk : okG s a j.width j.est = true) (h : Tog (layL s a j) l) : Tog s ((a, j) :: l) := by
  obtain ⟨hc, ⟨w1, w2⟩, ⟨e1, e2⟩, lo, _, hi, _, _, _⟩ := room_may hk
  obtain ⟨_, h2⟩ := layL_chk hk
  refine ⟨hc, fun y hy => ?_, fun t ht => ?_⟩
  · rcases List.mem_cons.1 hy with rfl | hy
    · exact ⟨w1, w2, e1, e2, lo, hi⟩
    · exact (may_laid hk).1 (h.may y hy)
  · have h3 := h.room t (by rw [h2]; exact ht)
    rw [lay_val hk ht] at h3
    unfold covT
    omega
/-- Laid one behind the other. -/
def laidL : List Sp → List (Int × Jb) → List Sp
  | s, [] => s
  | s, x :: l => laidL (layL s x.1 x.2) l
def SeqOk : List Sp → List (Int × Jb) → Prop
  | s, [] => Chk s
  | s, x :: l => okG s x.1 x.2.width x.2.est = true ∧ SeqOk (layL s x.1 x.2) l
theorem seq_tog : ∀ {l : List (Int × Jb)} {s : List Sp}, SeqOk s l ↔ Tog s l
  | [], s => ⟨fun h => Tog.nil h, fun h => h.chk⟩
  | x :: l, s => ⟨fun h => Tog.back h.1 (seq_tog.1 h.2), fun h => ⟨h.ok, seq_tog.2 h.next⟩⟩
theorem laid_snoc : ∀ (l : List (Int × Jb)) (s : List Sp) (x : Int × Jb), laidL s (l ++ [x]) = layL (laidL s l) x.1 x.2
  | [], _, _ => rfl
  | y :: l, s, x => by rw [List.cons_append]; unfold laidL; exact laid_snoc l _ x
theorem seq_snoc : ∀ {l : List (Int × Jb)} {s : List Sp} {x : Int × Jb}, SeqOk s l → okG (laidL s l) x.1 x.2.width x.2.est = true → SeqOk s (l ++ [x])
  | [], s, x, _, h => ⟨h, (layL_chk h).1⟩
  | y :: l, s, x, h, h2 => by
    rw [List.cons_append]
    exact ⟨h.1, seq_snoc h.2 h2⟩
theorem seq_chk : ∀ {l : List (Int × Jb)} {s : List Sp}, SeqOk s l → Chk (laidL s l) ∧ head (laidL s l) = head s
  | [], _, h => ⟨h, rfl⟩
  | x :: l, s, h => by
    obtain ⟨h1, h2⟩ := seq_chk h.2
    exact ⟨h1, h2.trans (layL_chk h.1).2⟩
theorem laid_len : ∀ {l : List (Int × Jb)} {s : List Sp}, SeqOk s l → (laidL s l).length ≤ s.length + 3 * l.length
  | [], _, _ => by unfold laidL; simp
  | x :: l, s, h => by
    have h1 := laid_len h.2
    have h2 := layL_len h.1
    unfold laidL
    simp only [List.length_cons]
    omega
theorem seq_at : ∀ {l : List (Int × Jb)} {s : List Sp} {i : Nat} (_ : SeqOk s l) (hi : i < l.length), okG (laidL s (l.take i)) l[i].1 l[i].2.width l[i].2.est = true ∧ laidL s (l.take (i + 1)) = layL (laidL s (l.take i)) l[i].1 l[i].2
  | [], _, _, _, hi => by simp at hi
  | x :: l, s, 0, h, _ => ⟨h.1, rfl⟩
  | x :: l, s, i + 1, h, hi => seq_at (i := i) h.2 (by simpa using hi)
theorem seq_take : ∀ {l : List (Int × Jb)} {s : List Sp} (i : Nat), SeqOk s l → SeqOk s (l.take i)
  | [], _, i, h => by rw [List.take_nil]; exact h
  | x :: l, s, 0, h => by
    have := seq_tog.1 h
    exact this.chk
  | x :: l, s, i + 1, h => ⟨h.1, seq_take i h.2⟩
/-- What has no room has none where more is laid. -/
theorem room_less {s : List Sp} {a u w n : Int} {j : Jb} (hk : okG s a j.width j.est = true) (h : GapPlain.Room (layL s a j) u w n) : GapPlain.Room s u w n := by
  obtain ⟨h1, h2, h3⟩ := h
  have hh := (layL_chk hk).2
  have hm := (room_may hk).2.1
  rw [hh] at h1
  refine ⟨h1, h2, fun t g1 g2 => ?_⟩
  have := h3 t g1 g2
  rw [lay_val hk (by omega)] at this
  unfold oneT at this
  dsimp only at this
  split at this <;> omega
theorem fit_less {s : List Sp} {now a : Int} {j k : Jb} (hk : okG s a j.width j.est = true) (h : fitF s now k < 0) : fitF (layL s a j) now k < 0 := by
  rcases fitF_cases (layL s a j) now k with ⟨h1, _⟩ | ⟨h1, h2⟩
  · omega
  · exfalso
    have hok := (fitF_ok h1).1
    obtain ⟨hm, hr⟩ := okG_iff.1 hok
    have hr2 := room_less hk hr
    obtain ⟨_, m2⟩ := mayG_iff.1 hm
    have hms : mayG s k.width k.est = true := mayG_iff.2 ⟨(room_may hk).1, m2⟩
    rcases fitF_cases s now k with ⟨_, g⟩ | ⟨g, _⟩
    · rcases g with ⟨h5, _⟩ | ⟨_, _, g⟩
      · cases h5
      · rcases g with g | g
        · rw [hms] at g; cases g
        · exact g _ (fitF_ok h1).2.1 hr2
    · omega
end Go.Proofs.Ytophhiejggnaeaa.TogPlain
namespace Go.Proofs.Ytophhiejggnaeaa.PasPlain
open Go.Proofs.Ytophhiejggnaeaa.SpanPlain Go.Proofs.Ytophhiejggnaeaa.StepPlain Go.Proofs.Ytophhiejggnaeaa.GapPlain Go.Proofs.Ytophhiejggnaeaa.JobPlain Go.Proofs.Ytophhiejggnaeaa.OrdPlain Go.Proofs.Ytophhiejggnaeaa.ApiPlain Go.Proofs.Ytophhiejggnaeaa.ShaPlain Go.Proofs.Ytophhiejggnaeaa.SlaPlain Go.Proofs.Ytophhiejggnaeaa.TogPlain
/-- How a pass stands: the steps; those that are promised, and when; those that are started; all that is laid, in the order in which it was. -/
structure Pas where
  s : List Sp
  Q : List (Int × Jb)
  R : List Jb
  O : List (Int × Jb)
def Pas.new (s : List Sp) : Pas := ⟨s, [], [], []⟩
def startP (now : Int) (x : Pas) (j : Jb) : Pas := ⟨layL x.s now j, x.Q, x.R ++ [j], x.O ++ [(now, j)]⟩
def promP (x : Pas) (a : Int) (j : Jb) : Pas := ⟨layL x.s a j, x.Q ++ [(a, j)], x.R, x.O ++ [(a, j)]⟩
def prmQ (q : Int × Jb) : Prm := ⟨q.2.id, q.1, 0⟩
/-- What the plan tells. -/
def Pas.st (x : Pas) : List Int := x.R.map (·.id)
def Pas.P (x : Pas) : List Prm := x.Q.map prmQ
structure PasOk (s : List Sp) (now : Int) (x : Pas) : Prop where
  seq : SeqOk s x.O
  laid : x.s = laidL s x.O
  perm : x.O.Perm (x.Q ++ x.R.map fun j => (now, j))
  late : ∀ q ∈ x.Q, now < q.1
section
variable {s : List Sp} {now : Int} {x : Pas} {j : Jb}
theorem PasOk.new (h : Chk s) : PasOk s now (Pas.new s) := ⟨h, rfl, List.Perm.nil, (fun _ h => by cases h)⟩
theorem PasOk.start (h : PasOk s now x) (hk : okG x.s now j.width j.est = true) : PasOk s now (startP now x j) := by
  refine ⟨seq_snoc h.seq (by rw [← h.laid]; exact hk), ?_, ?_, h.late⟩
  · show layL x.s now j = laidL s (x.O ++ [(now, j)])
    rw [laid_snoc, ← h.laid]
  · show (x.O ++ [(now, j)]).Perm (x.Q ++ (x.R ++ [j]).map fun j => (now, j))
    rw [List.map_append, ← List.append_assoc]
    exact h.perm.append_right _
theorem PasOk.prom {a : Int} (h : PasOk s now x) (hk : okG x.s a j.width j.est = true) (ha : now < a) : PasOk s now (promP x a j) := by
  refine ⟨seq_snoc h.seq (by rw [← h.laid]; exact hk), ?_, ?_, ?_⟩
  · show layL x.s a j = laidL s (x.O ++ [(a, j)])
    rw [laid_snoc, ← h.laid]
  · show (x.O ++ [(a, j)]).Perm (x.Q ++ [(a, j)] ++ x.R.map fun j => (now, j))
    refine (h.perm.append_right _).trans ?_
    rw [List.append_assoc, List.append_assoc]
    exact List.Perm.append_left _ List.perm_append_comm
  · intro q hq
    rcases List.mem_append.1 hq with hq | hq
    · exact h.late q hq
    · rw [List.mem_singleton] at hq; subst hq; exact ha
theorem PasOk.tog (h : PasOk s now x) : Tog s (x.Q ++ x.R.map fun j => (now, j)) := (seq_tog.1 h.seq).perm h.perm
theorem PasOk.seq2 (h : PasOk s now x) : SeqOk s (x.Q ++ x.R.map fun j => (now, j)) := seq_tog.2 h.tog
theorem PasOk.chk (h : PasOk s now x) : Chk x.s ∧ head x.s = head s := by rw [h.laid]; exact seq_chk h.seq
theorem PasOk.len (h : PasOk s now x) : x.O.length = x.Q.length + x.R.length := by
  have := h.perm.length_eq
  simpa using this
theorem PasOk.short (h : PasOk s now x) : x.s.length ≤ s.length + 3 * (x.Q.length + x.R.length) := by
  rw [h.laid, ← h.len]
  exact laid_len h.seq
end
/-- All that is laid: promises first, then starts. -/
def seqT (x : Pas) (now : Int) : List (Int × Jb) := x.Q ++ x.R.map fun j => (now, j)
theorem seqT_len (x : Pas) (now : Int) : (seqT x now).length = x.P.length + x.st.length := by simp [seqT, Pas.P, Pas.st]
theorem P_len (x : Pas) : x.P.length = x.Q.length := by simp [Pas.P]
theorem st_len (x : Pas) : x.st.length = x.R.length := by simp [Pas.st]
/-- The promise, or the start, at a place. -/
theorem seqT_prom {x : Pas} {now : Int} {i : Nat} (hi : i < x.P.length) (hi2 : i < (seqT x now).length) : x.P[i] = ⟨(seqT x now)[i].2.id, (seqT x now)[i].1, 0⟩ := by
  have h : i < x.Q.length := by rwa [P_len] at hi
  have e : (seqT x now)[i] = x.Q[i] := by
    have h1 : (seqT x now)[i]? = x.Q[i]? := List.getElem?_append_left h
    rw [List.getElem?_eq_getElem hi2, List.getElem?_eq_getElem h] at h1
    exact Option.some.inj h1
  rw [e]
  simp [Pas.P, prmQ]
theorem seqT_start {x : Pas} {now : Int} {i : Nat} (hi : x.P.length ≤ i) (hi2 : i < (seqT x now).length) (hi3 : i - x.P.length < x.st.length) : x.st[i - x.P.length] = (seqT x now)[i].2.id ∧ (seqT x now)[i].1 = now := by
  have h : x.Q.length ≤ i := by rwa [P_len] at hi
  have hr : i - x.Q.length < x.R.length := by rw [st_len, P_len] at hi3; exact hi3
  have e : (seqT x now)[i] = (now, x.R[i - x.Q.length]) := by
    have h1 : (seqT x now)[i]? = (x.R.map fun j => (now, j))[i - x.Q.length]? := List.getElem?_append_right h
    rw [List.getElem?_map, List.getElem?_eq_getElem hi2, List.getElem?_eq_getElem hr] at h1
    exact Option.some.inj h1
  rw [e]
  refine ⟨?_, rfl⟩
  simp [Pas.st, P_len]
theorem PasOk.mem {s : List Sp} {now : Int} {x : Pas} (h : PasOk s now x) {q : Int × Jb} (hq : q ∈ seqT x now) : q ∈ x.O := h.perm.mem_iff.2 hq
theorem PasOk.lenT {s : List Sp} {now : Int} {x : Pas} (h : PasOk s now x) : (seqT x now).length = x.O.length := (h.perm.length_eq).symm
/-- What becomes of one job: it starts, or is late, or has no shadow. -/
theorem fit_ways {x : Pas} {now : Int} {j : Jb} (hn : 0 ≤ now) : (fitF x.s now j = now ∧ okG x.s now j.width j.est = true) ∨ (now < fitF x.s now j ∧ okG x.s (fitF x.s now j) j.width j.est = true) ∨ (fitF x.s now j < 0 ∧ ¬ fitF x.s now j = now ∧ ¬ now < fitF x.s now j) := by
  by_cases h : 0 ≤ fitF x.s now j
  · obtain ⟨h1, h2, _⟩ := fitF_ok h
    by_cases h3 : fitF x.s now j = now
    · exact .inl ⟨h3, by rw [h3] at h1; exact h1⟩
    · exact .inr (.inl ⟨by omega, h1⟩)
  · exact .inr (.inr ⟨by omega, by omega, by omega⟩)
/-- EASY. -/
def easyOne (now : Int) (head : Bool) (x : Pas) (j : Jb) : Pas :=
  if fitF x.s now j = now then startP now x j else if now < fitF x.s now j ∧ head = true ∧ x.Q = [] then promP x (fitF x.s now j) j else x
def easyP (s : List Sp) (now : Int) (js : List Jb) (head : Bool) : Pas := js.foldl (easyOne now head) (Pas.new s)
end Go.Proofs.Ytophhiejggnaeaa.PasPlain
namespace Go.Proofs.Ytophhiejggnaeaa.QuePlain
open Go.RowKit Go.Proofs.Ytophhiejggnaeaa.ApiPlain Go.Proofs.Ytophhiejggnaeaa.JobPlain
def mayC (c : Cl) : Bool := nameB c.name && (decide (1 ≤ c.minW) && (decide (c.minW ≤ c.maxW) && (decide (c.maxW ≤ 256) && (decide (1 ≤ c.minE) && (decide (c.minE ≤ c.maxE) && decide (c.maxE ≤ 1099511627776))))))
theorem mayC_iff (c : Cl) : mayC c = true ↔ nameB c.name = true ∧ 1 ≤ c.minW ∧ c.minW ≤ c.maxW ∧ c.maxW ≤ 256 ∧ 1 ≤ c.minE ∧ c.minE ≤ c.maxE ∧ c.maxE ≤ 1099511627776 := by
  unfold mayC
  simp only [Bool.and_eq_true, decide_eq_true_eq]
theorem mayC_ways (c : Cl) : (nameB c.name = false ∧ mayC c = false) ∨ (nameB c.name = true ∧ decide (1 ≤ c.minW) = false ∧ mayC c = false) ∨ (nameB c.name = true ∧ decide (1 ≤ c.minW) = true ∧ decide (c.minW ≤ c.maxW) = false ∧ mayC c = false) ∨
    (nameB c.name = true ∧ decide (1 ≤ c.minW) = true ∧ decide (c.minW ≤ c.maxW) = true ∧ decide (c.maxW ≤ 256) = false ∧ mayC c = false) ∨ (nameB c.name = true ∧ decide (1 ≤ c.minW) = true ∧ decide (c.minW ≤ c.maxW) = true ∧ decide (c.maxW ≤ 256) = true ∧ decide (1 ≤ c.minE) = false ∧ mayC c = false) ∨
    (nameB c.name = true ∧ decide (1 ≤ c.minW) = true ∧ decide (c.minW ≤ c.maxW) = true ∧ decide (c.maxW ≤ 256) = true ∧ decide (1 ≤ c.minE) = true ∧ decide (c.minE ≤ c.maxE) = false ∧ mayC c = false) ∨
    (nameB c.name = true ∧ decide (1 ≤ c.minW) = true ∧ decide (c.minW ≤ c.maxW) = true ∧ decide (c.maxW ≤ 256) = true ∧ decide (1 ≤ c.minE) = true ∧ decide (c.minE ≤ c.maxE) = true ∧ decide (c.maxE ≤ 1099511627776) = false ∧ mayC c = false) ∨
    (nameB c.name = true ∧ decide (1 ≤ c.minW) = true ∧ decide (c.minW ≤ c.maxW) = true ∧ decide (c.maxW ≤ 256) = true ∧ decide (1 ≤ c.minE) = true ∧ decide (c.minE ≤ c.maxE) = true ∧ decide (c.maxE ≤ 1099511627776) = true ∧ mayC c = true) := by
  unfold mayC
  cases nameB c.name <;> cases decide (1 ≤ c.minW) <;> cases decide (c.minW ≤ c.maxW) <;> cases decide (c.maxW ≤ 256) <;> cases decide (1 ≤ c.minE) <;> cases decide (c.minE ≤ c.maxE) <;> cases decide (c.maxE ≤ 1099511627776) <;> simp
def hasC (c : Cl) (w e : Int) : Bool := mayC c && (decide (c.minW ≤ w) && (decide (w ≤ c.maxW) && (decide (c.minE ≤ e) && decide (e ≤ c.maxE))))
theorem hasC_iff (c : Cl) (w e : Int) : hasC c w e = true ↔ mayC c = true ∧ c.minW ≤ w ∧ w ≤ c.maxW ∧ c.minE ≤ e ∧ e ≤ c.maxE := by
  unfold hasC
  simp only [Bool.and_eq_true, decide_eq_true_eq]
theorem hasC_ways (c : Cl) (w e : Int) : (mayC c = false ∧ hasC c w e = false) ∨ (mayC c = true ∧ decide (c.minW ≤ w) = false ∧ hasC c w e = false) ∨ (mayC c = true ∧ decide (c.minW ≤ w) = true ∧ decide (w ≤ c.maxW) = false ∧ hasC c w e = false) ∨
    (mayC c = true ∧ decide (c.minW ≤ w) = true ∧ decide (w ≤ c.maxW) = true ∧ decide (c.minE ≤ e) = false ∧ hasC c w e = false) ∨ (mayC c = true ∧ decide (c.minW ≤ w) = true ∧ decide (w ≤ c.maxW) = true ∧ decide (c.minE ≤ e) = true ∧ decide (e ≤ c.maxE) = false ∧ hasC c w e = false) ∨
    (mayC c = true ∧ decide (c.minW ≤ w) = true ∧ decide (w ≤ c.maxW) = true ∧ decide (c.minE ≤ e) = true ∧ decide (e ≤ c.maxE) = true ∧ hasC c w e = true) := by
  unfold hasC
  cases mayC c <;> cases decide (c.minW ≤ w) <;> cases decide (w ≤ c.maxW) <;> cases decide (c.minE ≤ e) <;> cases decide (e ≤ c.maxE) <;> simp
def meetC (a b : Cl) : Bool := hasC a (max a.minW b.minW) (max a.minE b.minE) && hasC b (max a.minW b.minW) (max a.minE b.minE)
def clash (a b : Cl) : Bool := (a.name.toList == b.name.toList) || meetC a b
def nthC (l : List Cl) (k : Nat) : Cl := l.getD k noCl
theorem nthC_at {l : List Cl} {k : Nat} (h : k < l.length) : nthC l k = l[k] := by unfold nthC; simp [List.getD, h]
/-- The first i classes are of unlike names, and none meets another one. -/
def apartAt (l : List Cl) (i k : Nat) : Bool := (List.range k).all fun j => !clash (nthC l i) (nthC l j)
def apartTo (l : List Cl) (n : Nat) : Bool := (List.range n).all fun i => apartAt l i i
theorem apartAt_next (l : List Cl) (i k : Nat) : apartAt l i (k + 1) = (apartAt l i k && !clash (nthC l i) (nthC l k)) := by unfold apartAt; rw [List.range_succ, List.all_append]; simp
theorem apartTo_next (l : List Cl) (n : Nat) : apartTo l (n + 1) = (apartTo l n && apartAt l n n) := by unfold apartTo; rw [List.range_succ, List.all_append]; simp
theorem apartAt_no {l : List Cl} {i k n : Nat} (hk : k < n) (h : clash (nthC l i) (nthC l k) = true) : apartAt l i n = false := by
  unfold apartAt
  rw [List.all_eq_false]
  exact ⟨k, List.mem_range.2 hk, by rw [h]; decide⟩
theorem apartTo_no {l : List Cl} {i n : Nat} (hi : i < n) (h : apartAt l i i = false) : apartTo l n = false := by
  unfold apartTo
  rw [List.all_eq_false]
  exact ⟨i, List.mem_range.2 hi, by rw [h]; decide⟩
/-- Why classes may not be; 0: they may. -/
def checkC (l : List Cl) : Int := if 20 < l.length then 4 else if l.all mayC = false then 1 else if apartTo l l.length = true then 0 else 7
theorem checkC_full {l : List Cl} (h : 20 < l.length) : checkC l = 4 := by unfold checkC; rw [if_pos h]
theorem checkC_arg {l : List Cl} (h : ¬ 20 < l.length) (h2 : l.all mayC = false) : checkC l = 1 := by unfold checkC; rw [if_neg h, if_pos h2]
theorem checkC_there {l : List Cl} (h : ¬ 20 < l.length) (h2 : l.all mayC = true) (h3 : apartTo l l.length = false) : checkC l = 7 := by unfold checkC; rw [if_neg h, if_neg (by rw [h2]; decide), if_neg (by rw [h3]; decide)]
theorem checkC_ok {l : List Cl} (h : ¬ 20 < l.length) (h2 : l.all mayC = true) (h3 : apartTo l l.length = true) : checkC l = 0 := by unfold checkC; rw [if_neg h, if_neg (by rw [h2]; decide), if_pos h3]
theorem checkC_zero {l : List Cl} (h : checkC l = 0) : l.length ≤ 20 ∧ l.all mayC = true ∧ apartTo l l.length = true := by
  unfold checkC at h
  split at h
  · omega
  · split at h
    · omega
    · split at h
      · refine ⟨by omega, ?_, by assumption⟩
        cases hb : l.all mayC with
        | true => rfl
        | false => contradiction
      · omega
theorem all_no {l : List Cl} {k : Nat} (hk : k < l.length) (h : mayC (nthC l k) = false) : l.all mayC = false := by
  rw [List.all_eq_false]
  exact ⟨nthC l k, by rw [nthC_at hk]; exact List.getElem_mem hk, by rw [h]; decide⟩
def MayTo (l : List Cl) (k : Nat) : Prop := ∀ i, i < k → i < l.length → mayC (nthC l i) = true
theorem MayTo.next {l : List Cl} {k : Nat} (h : MayTo l k) (hk : mayC (nthC l k) = true) : MayTo l (k + 1) := fun i hi hl => by
  rcases Nat.lt_or_ge i k with h1 | h1
  · exact h i h1 hl
  · obtain rfl : i = k := by omega
    exact hk
theorem MayTo.all {l : List Cl} {k : Nat} (h : MayTo l k) (hk : l.length ≤ k) : l.all mayC = true := by
  rw [List.all_eq_true]
  intro c hc
  obtain ⟨i, hi, rfl⟩ := List.mem_iff_getElem.1 hc
  rw [← nthC_at hi]
  exact h i (by omega) hi
/-- The class of a width and a length: the first one from a place on; -1: none. -/
def ofFrom (l : List Cl) (w e : Int) (k : Nat) : Int := if h : k < l.length then if hasC (nthC l k) w e = true then (k : Int) else ofFrom l w e (k + 1) else -1
termination_by l.length - k
def ofC (l : List Cl) (w e : Int) : Int := ofFrom l w e 0
theorem of_yes {l : List Cl} {w e : Int} {k : Nat} (hk : k < l.length) (h : hasC (nthC l k) w e = true) : ofFrom l w e k = k := by rw [ofFrom, dif_pos hk, if_pos h]
theorem of_next {l : List Cl} {w e : Int} {k : Nat} (hk : k < l.length) (h : hasC (nthC l k) w e = false) : ofFrom l w e k = ofFrom l w e (k + 1) := by rw [ofFrom, dif_pos hk, if_neg (by rw [h]; decide)]
theorem of_end {l : List Cl} {w e : Int} {k : Nat} (hk : l.length ≤ k) : ofFrom l w e k = -1 := by rw [ofFrom, dif_neg (by omega)]
theorem of_range (l : List Cl) (w e : Int) : ∀ d k, l.length - k = d → ofFrom l w e k = -1 ∨ ∃ i : Nat, k ≤ i ∧ i < l.length ∧ ofFrom l w e k = i ∧ hasC (nthC l i) w e = true := by
  intro d
  induction d with
  | zero => intro k hk; exact .inl (of_end (by omega))
  | succ d ih =>
    intro k hk
    cases hb : hasC (nthC l k) w e with
    | true => exact .inr ⟨k, Nat.le_refl _, by omega, of_yes (by omega) hb, hb⟩
    | false =>
      rw [of_next (by omega) hb]
      rcases ih (k + 1) (by omega) with h | ⟨i, h1, h2, h3, h4⟩
      · exact .inl h
      · exact .inr ⟨i, by omega, h2, h3, h4⟩
theorem ofC_cases (l : List Cl) (w e : Int) : ofC l w e = -1 ∨ ∃ i : Nat, i < l.length ∧ ofC l w e = i ∧ hasC (nthC l i) w e = true := by
  rcases of_range l w e _ 0 rfl with h | ⟨i, _, h2, h3, h4⟩
  · exact .inl h
  · exact .inr ⟨i, h2, h3, h4⟩
/-- Jobs by their classes. -/
def pickJ (l : List Cl) (c : Int) (js : List Jb) : List Jb := js.filter fun j => decide (ofC l j.width j.est = c)
def splitC (l : List Cl) (js : List Jb) : List (List Jb) := (List.range l.length).map fun (i : Nat) => pickJ l (i : Int) js
theorem split_len (l : List Cl) (js : List Jb) : (splitC l js).length = l.length := by simp [splitC]
theorem split_at (l : List Cl) (js : List Jb) {i : Nat} (hi : i < l.length) : (splitC l js)[i]? = some (pickJ l i js) := by simp [splitC, hi]
theorem pick_take (l : List Cl) (c : Int) (js : List Jb) {k : Nat} (hk : k < js.length) : pickJ l c (js.take (k + 1)) = pickJ l c (js.take k) ++ if ofC l js[k].width js[k].est = c then [js[k]] else [] := by
  unfold pickJ
  rw [List.take_succ_eq_append_getElem hk, List.filter_append]
  congr 1
  by_cases h : ofC l js[k].width js[k].est = c <;> simp [h]
end Go.Proofs.Ytophhiejggnaeaa.QuePlain
namespace Go.Proofs.Ytophhiejggnaeaa.MulPlain
open Go.Proofs.Ytophhiejggnaeaa.SpanPlain Go.Proofs.Ytophhiejggnaeaa.StepPlain Go.Proofs.Ytophhiejggnaeaa.GapPlain Go.Proofs.Ytophhiejggnaeaa.JobPlain Go.Proofs.Ytophhiejggnaeaa.OrdPlain Go.Proofs.Ytophhiejggnaeaa.ApiPlain Go.Proofs.Ytophhiejggnaeaa.ShaPlain Go.Proofs.Ytophhiejggnaeaa.SlaPlain Go.Proofs.Ytophhiejggnaeaa.TogPlain Go.Proofs.Ytophhiejggnaeaa.PasPlain Go.Proofs.Ytophhiejggnaeaa.QuePlain
/-- Which class has a width and a length, as a function that can be run. -/
def ofE (l : List Cl) (w e : Int) : Int := match l.findIdx? (fun c => hasC c w e) with | some i => (i : Int) | none => -1
theorem ofE_from (l : List Cl) (w e : Int) : ∀ d k, l.length - k = d → ofFrom l w e k = match (l.drop k).findIdx? (fun c => hasC c w e) with | some i => ((k + i : Nat) : Int) | none => -1 := by
  intro d
  induction d with
  | zero =>
    intro k h
    rw [of_end (by omega), List.drop_of_length_le (by omega)]
    rfl
  | succ d ih =>
    intro k h
    have hk : k < l.length := by omega
    rw [show l.drop k = nthC l k :: l.drop (k + 1) by rw [nthC_at hk, List.getElem_cons_drop], List.findIdx?_cons]
    cases hh : hasC (nthC l k) w e with
    | true => rw [of_yes hk hh]; simp
    | false =>
      rw [of_next hk hh, ih (k + 1) (by omega)]
      cases (l.drop (k + 1)).findIdx? (fun c => hasC c w e) with
      | none => simp
      | some i =>
        show ((k + 1 + i : Nat) : Int) = ((k + (i + 1) : Nat) : Int)
        rw [show k + 1 + i = k + (i + 1) by omega]
theorem ofE_eq (l : List Cl) (w e : Int) : ofC l w e = ofE l w e := by
  unfold ofC ofE
  rw [ofE_from l w e _ 0 rfl, List.drop_zero]
  cases l.findIdx? (fun c => hasC c w e) <;> simp
/-- One class's jobs, or, behind all classes, the rest: what is started and promised, the head's Id, the jobs that are left. -/
def mulIn (cls : List Cl) (now : Int) (c : Nat) (pr : Bool) : Pas → Bool → Int → List Jb → Pas × Int × List Jb
  | x, _, h, [] => (x, h, [])
  | x, stop, h, j :: l =>
    if stop = true ∨ (c < cls.length ∧ ofE cls j.width j.est ≠ c) then ((mulIn cls now c pr x stop h l).1, (mulIn cls now c pr x stop h l).2.1, j :: (mulIn cls now c pr x stop h l).2.2)
    else if fitF x.s now j = now then mulIn cls now c pr (startP now x j) stop h l
    else if now < fitF x.s now j ∧ c < cls.length then
      if pr = true then mulIn cls now c pr (promP x (fitF x.s now j) j) true j.id l
      else ((mulIn cls now c pr x true j.id l).1, (mulIn cls now c pr x true j.id l).2.1, j :: (mulIn cls now c pr x true j.id l).2.2)
    else ((mulIn cls now c pr x stop h l).1, (mulIn cls now c pr x stop h l).2.1, j :: (mulIn cls now c pr x stop h l).2.2)
/-- May the class's head be promised? -/
def mayPr (over : List Bool) (c : Nat) : Bool := !over.getD c false
def mulTo (cls : List Cl) (over : List Bool) (now : Int) (s : List Sp) (js : List Jb) : Nat → Pas × List Int × List Jb
  | 0 => (Pas.new s, [], js)
  | c + 1 =>
    ((mulIn cls now c (mayPr over c) (mulTo cls over now s js c).1 false 0 (mulTo cls over now s js c).2.2).1,
      (mulTo cls over now s js c).2.1 ++ [(mulIn cls now c (mayPr over c) (mulTo cls over now s js c).1 false 0 (mulTo cls over now s js c).2.2).2.1],
      (mulIn cls now c (mayPr over c) (mulTo cls over now s js c).1 false 0 (mulTo cls over now s js c).2.2).2.2)
def mulP (cls : List Cl) (over : List Bool) (s : List Sp) (now : Int) (js : List Jb) : Pas :=
  (mulIn cls now cls.length false (mulTo cls over now s js cls.length).1 false 0 (mulTo cls over now s js cls.length).2.2).1
def headsP (cls : List Cl) (s : List Sp) (now : Int) (js : List Jb) : List Int := (mulTo cls [] now s js cls.length).2.1
theorem heads_len (cls : List Cl) (over : List Bool) (now : Int) (s : List Sp) (js : List Jb) : ∀ c, (mulTo cls over now s js c).2.1.length = c
  | 0 => rfl
  | c + 1 => by
    unfold mulTo
    rw [List.length_append, heads_len cls over now s js c]
    rfl
section
variable {cls : List Cl} {now : Int} {c : Nat} {pr : Bool}
theorem mul_stop : ∀ (l : List Jb) (x : Pas) (h : Int), mulIn cls now c pr x true h l = (x, h, l)
  | [], _, _ => rfl
  | j :: l, x, h => by
    unfold mulIn
    rw [if_pos (.inl rfl), mul_stop l x h]
theorem now_ok {x : Pas} {j : Jb} (hn : 0 ≤ now) (h : fitF x.s now j = now) : okG x.s now j.width j.est = true := by
  have h1 := (fitF_ok (s := x.s) (now := now) (j := j) (by omega)).1
  rwa [h] at h1
theorem late_ok {x : Pas} {j : Jb} (hn : 0 ≤ now) (h : now < fitF x.s now j) : okG x.s (fitF x.s now j) j.width j.est = true := (fitF_ok (by omega)).1
theorem mul_ok {s : List Sp} (hn : 0 ≤ now) : ∀ (l : List Jb) (x : Pas) (stop : Bool) (h : Int), PasOk s now x → PasOk s now (mulIn cls now c pr x stop h l).1
  | [], _, _, _, hx => hx
  | j :: l, x, stop, h, hx => by
    unfold mulIn
    split
    · exact mul_ok hn l x stop h hx
    · split
      · rename_i h1
        exact mul_ok hn l _ stop h (hx.start (now_ok hn h1))
      · split
        · rename_i h1
          split
          · exact mul_ok hn l _ true j.id (hx.prom (late_ok hn h1.1) h1.1)
          · exact mul_ok hn l x true j.id hx
        · exact mul_ok hn l x stop h hx
theorem mul_mem (js : List Jb) : ∀ (l : List Jb) (x : Pas) (stop : Bool) (h : Int), (∀ j ∈ l, j ∈ js) → (∀ q ∈ x.O, q.2 ∈ js) → (∀ q ∈ (mulIn cls now c pr x stop h l).1.O, q.2 ∈ js) ∧ ∀ j ∈ (mulIn cls now c pr x stop h l).2.2, j ∈ js
  | [], _, _, _, _, hx => ⟨hx, (fun _ h => by cases h)⟩
  | j :: l, x, stop, h, hl, hx => by
    have hj := hl j (List.mem_cons_self ..)
    have hl2 : ∀ k ∈ l, k ∈ js := fun k hk => hl k (List.mem_cons_of_mem _ hk)
    have keep : ∀ {m : List Jb}, (∀ k ∈ m, k ∈ js) → ∀ k ∈ j :: m, k ∈ js := fun hm k hk => by
      rcases List.mem_cons.1 hk with rfl | hk
      · exact hj
      · exact hm k hk
    unfold mulIn
    split
    · have r := mul_mem js l x stop h hl2 hx
      exact ⟨r.1, keep r.2⟩
    · split
      · refine mul_mem js l _ stop h hl2 ?_
        intro q hq
        rcases List.mem_append.1 hq with hq | hq
        · exact hx q hq
        · rw [List.mem_singleton] at hq; subst hq; exact hj
      · split
        · split
          · refine mul_mem js l _ true j.id hl2 ?_
            intro q hq
            rcases List.mem_append.1 hq with hq | hq
            · exact hx q hq
            · rw [List.mem_singleton] at hq; subst hq; exact hj
          · have r := mul_mem js l x true j.id hl2 hx
            exact ⟨r.1, keep r.2⟩
        · have r := mul_mem js l x stop h hl2 hx
          exact ⟨r.1, keep r.2⟩
/-- At most one is promised, of this class. -/
theorem mul_one : ∀ (l : List Jb) (x : Pas) (h : Int), (mulIn cls now c pr x false h l).1.Q = x.Q ∨ ∃ a j, (mulIn cls now c pr x false h l).1.Q = x.Q ++ [(a, j)] ∧ c < cls.length ∧ ofE cls j.width j.est = c
  | [], _, _ => .inl rfl
  | j :: l, x, h => by
    unfold mulIn
    split
    · exact mul_one l x h
    · rename_i hs
      split
      · exact mul_one l (startP now x j) h
      · split
        · rename_i hlt
          split
          · rw [mul_stop]
            refine .inr ⟨_, j, rfl, hlt.2, ?_⟩
            by_cases he : ofE cls j.width j.est = c
            · exact he
            · exact absurd (.inr ⟨hlt.2, he⟩) hs
          · rw [mul_stop]; exact .inl rfl
        · exact mul_one l x h
end
/-- Each job is laid once at most. -/
theorem mul_count {cls : List Cl} {now : Int} {c : Nat} {pr : Bool} : ∀ (l : List Jb) (x : Pas) (stop : Bool) (h : Int), (mulIn cls now c pr x stop h l).1.O.length + (mulIn cls now c pr x stop h l).2.2.length = x.O.length + l.length
  | [], _, _, _ => rfl
  | j :: l, x, stop, h => by
    unfold mulIn
    split
    · have := mul_count (cls := cls) (now := now) (c := c) (pr := pr) l x stop h
      simp only [List.length_cons]; omega
    · split
      · have := mul_count (cls := cls) (now := now) (c := c) (pr := pr) l (startP now x j) stop h
        rw [this]
        simp [startP]; omega
      · split
        · split
          · have := mul_count (cls := cls) (now := now) (c := c) (pr := pr) l (promP x (fitF x.s now j) j) true j.id
            rw [this]
            simp [promP]; omega
          · have := mul_count (cls := cls) (now := now) (c := c) (pr := pr) l x true j.id
            simp only [List.length_cons]; omega
        · have := mul_count (cls := cls) (now := now) (c := c) (pr := pr) l x stop h
          simp only [List.length_cons]; omega
theorem to_count {cls : List Cl} {over : List Bool} {now : Int} {s : List Sp} {js : List Jb} : ∀ c, (mulTo cls over now s js c).1.O.length + (mulTo cls over now s js c).2.2.length = js.length
  | 0 => by show 0 + js.length = js.length; omega
  | c + 1 => by
    have h := to_count (cls := cls) (over := over) (now := now) (s := s) (js := js) c
    have h2 := mul_count (cls := cls) (now := now) (c := c) (pr := mayPr over c) (mulTo cls over now s js c).2.2 (mulTo cls over now s js c).1 false 0
    unfold mulTo
    dsimp only
    omega
theorem mul_len {cls : List Cl} {over : List Bool} {now : Int} {s : List Sp} {js : List Jb} : (mulP cls over s now js).O.length ≤ js.length := by
  have h := to_count (cls := cls) (over := over) (now := now) (s := s) (js := js) cls.length
  have h2 := mul_count (cls := cls) (now := now) (c := cls.length) (pr := false) (mulTo cls over now s js cls.length).2.2 (mulTo cls over now s js cls.length).1 false 0
  unfold mulP
  omega
theorem to_ok {cls : List Cl} {over : List Bool} {now : Int} {s : List Sp} {js : List Jb} (hn : 0 ≤ now) (hc : Chk s) : ∀ c, PasOk s now (mulTo cls over now s js c).1
  | 0 => PasOk.new hc
  | c + 1 => mul_ok hn _ _ _ _ (to_ok hn hc c)
theorem to_mem {cls : List Cl} {over : List Bool} {now : Int} {s : List Sp} {js : List Jb} : ∀ c, (∀ q ∈ (mulTo cls over now s js c).1.O, q.2 ∈ js) ∧ ∀ j ∈ (mulTo cls over now s js c).2.2, j ∈ js
  | 0 => ⟨(fun _ h => by cases h), fun _ h => h⟩
  | c + 1 => mul_mem js _ _ _ _ (to_mem c).2 (to_mem c).1
def clsQ (cls : List Cl) (q : Int × Jb) : Int := ofE cls q.2.width q.2.est
theorem to_unlike {cls : List Cl} {over : List Bool} {now : Int} {s : List Sp} {js : List Jb} : ∀ c, (mulTo cls over now s js c).1.Q.Pairwise (fun a b => clsQ cls a ≠ clsQ cls b) ∧ ∀ q ∈ (mulTo cls over now s js c).1.Q, clsQ cls q < c
  | 0 => ⟨List.Pairwise.nil, (fun _ h => by cases h)⟩
  | c + 1 => by
    obtain ⟨h1, h2⟩ := to_unlike (cls := cls) (over := over) (now := now) (s := s) (js := js) c
    unfold mulTo
    rcases mul_one (cls := cls) (now := now) (c := c) (pr := mayPr over c) (mulTo cls over now s js c).2.2 (mulTo cls over now s js c).1 0 with h | ⟨a, j, h, _, hj⟩
    · dsimp only
      rw [h]
      exact ⟨h1, fun q hq => by have := h2 q hq; omega⟩
    · dsimp only
      rw [h]
      have hcj : clsQ cls (a, j) = c := hj
      refine ⟨List.pairwise_append.2 ⟨h1, List.pairwise_singleton _ _, fun q hq y hy => ?_⟩, fun q hq => ?_⟩
      · rw [List.mem_singleton] at hy
        subst hy
        have := h2 q hq
        omega
      · rcases List.mem_append.1 hq with hq | hq
        · have := h2 q hq; omega
        · rw [List.mem_singleton] at hq
          subst hq
          omega
theorem mul_all_ok {cls : List Cl} {over : List Bool} {now : Int} {s : List Sp} {js : List Jb} (hn : 0 ≤ now) (hc : Chk s) : PasOk s now (mulP cls over s now js) := mul_ok hn _ _ _ _ (to_ok hn hc _)
theorem mul_all_mem {cls : List Cl} {over : List Bool} {now : Int} {s : List Sp} {js : List Jb} : ∀ q ∈ (mulP cls over s now js).O, q.2 ∈ js := (mul_mem js _ _ _ _ (to_mem _).2 (to_mem _).1).1
theorem mul_all_unlike {cls : List Cl} {over : List Bool} {now : Int} {s : List Sp} {js : List Jb} : (mulP cls over s now js).Q.Pairwise (fun a b => clsQ cls a ≠ clsQ cls b) := by
  unfold mulP
  rcases mul_one (cls := cls) (now := now) (c := cls.length) (pr := false) (mulTo cls over now s js cls.length).2.2 (mulTo cls over now s js cls.length).1 0 with h | ⟨a, j, _, h, _⟩
  · rw [h]; exact (to_unlike _).1
  · omega
/-- Behind a promise, or behind the class, all others: each that has room is started. -/
theorem rest_easy {cls : List Cl} {now : Int} : ∀ (l : List Jb) (x : Pas) (h : Int), x.Q ≠ [] → (mulIn cls now cls.length false x false h l).1 = l.foldl (easyOne now true) x
  | [], _, _, _ => rfl
  | j :: l, x, h, hq => by
    unfold mulIn
    rw [if_neg (by simp), List.foldl_cons]
    unfold easyOne
    split
    · exact rest_easy l (startP now x j) h hq
    · rw [if_neg (by omega), if_neg (fun hh => hq hh.2.2)]
      exact rest_easy l x h hq
theorem rest_no {cls : List Cl} {now : Int} (hn : 0 ≤ now) : ∀ (K : List Jb) (l : List Jb) (x : Pas) (h : Int), (∀ k ∈ K, fitF x.s now k < 0) → (mulIn cls now cls.length false x false h (K ++ l)).1 = (mulIn cls now cls.length false x false h l).1
  | [], _, _, _, _ => rfl
  | k :: K, l, x, h, hK => by
    have hk := hK k (List.mem_cons_self ..)
    rw [List.cons_append]
    conv => lhs; unfold mulIn
    rw [if_neg (by simp), if_neg (by omega), if_neg (by omega)]
    exact rest_no hn K l x h (fun y hy => hK y (List.mem_cons_of_mem _ hy))
/-- With one class that has all jobs it is EASY. -/
theorem one_easy {cls : List Cl} {now : Int} (h1 : cls.length = 1) (hn : 0 ≤ now) : ∀ (l K : List Jb) (x : Pas), (∀ j ∈ l, ofE cls j.width j.est = 0) → x.Q = [] → (∀ k ∈ K, fitF x.s now k < 0) →
    (mulIn cls now cls.length false (mulIn cls now 0 true x false 0 l).1 false 0 (K ++ (mulIn cls now 0 true x false 0 l).2.2)).1 = l.foldl (easyOne now true) x
  | [], K, x, _, _, hK => by
    show (mulIn cls now cls.length false x false 0 (K ++ [])).1 = x
    rw [rest_no hn K [] x 0 hK]
    rfl
  | j :: l, K, x, hl, hq, hK => by
    have hj := hl j (List.mem_cons_self ..)
    have hl2 : ∀ k ∈ l, ofE cls k.width k.est = 0 := fun k hk => hl k (List.mem_cons_of_mem _ hk)
    have hs : ¬ (false = true ∨ (0 < cls.length ∧ ofE cls j.width j.est ≠ ((0 : Nat) : Int))) := by simp [hj]
    rw [List.foldl_cons]
    unfold easyOne
    rcases fit_ways (x := x) (now := now) (j := j) hn with ⟨g1, g2⟩ | ⟨g1, g2⟩ | ⟨g0, g1, g2⟩
    · have e : mulIn cls now 0 true x false 0 (j :: l) = mulIn cls now 0 true (startP now x j) false 0 l := by
        conv => lhs; unfold mulIn
        rw [if_neg hs, if_pos g1]
      rw [e, if_pos g1]
      exact one_easy h1 hn l K (startP now x j) hl2 hq fun k hk => fit_less g2 (hK k hk)
    · have e : mulIn cls now 0 true x false 0 (j :: l) = (promP x (fitF x.s now j) j, j.id, l) := by
        conv => lhs; unfold mulIn
        rw [if_neg hs, if_neg (by omega), if_pos ⟨g1, by omega⟩, if_pos rfl, mul_stop]
      rw [e, if_neg (by omega), if_pos ⟨g1, rfl, hq⟩]
      dsimp only
      rw [rest_no hn K l (promP x (fitF x.s now j) j) 0 fun k hk => fit_less g2 (hK k hk)]
      exact rest_easy l _ 0 (by simp [promP])
    · have e : mulIn cls now 0 true x false 0 (j :: l) = ((mulIn cls now 0 true x false 0 l).1, (mulIn cls now 0 true x false 0 l).2.1, j :: (mulIn cls now 0 true x false 0 l).2.2) := by
        conv => lhs; unfold mulIn
        rw [if_neg hs, if_neg g1, if_neg (fun hh => g2 hh.1)]
      rw [e, if_neg g1, if_neg (fun hh => g2 hh.1)]
      dsimp only
      have e2 : K ++ j :: (mulIn cls now 0 true x false 0 l).2.2 = (K ++ [j]) ++ (mulIn cls now 0 true x false 0 l).2.2 := by simp
      rw [e2]
      refine one_easy h1 hn l (K ++ [j]) x hl2 hq fun k hk => ?_
      rcases List.mem_append.1 hk with hk | hk
      · exact hK k hk
      · rw [List.mem_singleton] at hk; subst hk; exact g0
theorem mul_easy {cls : List Cl} {s : List Sp} {now : Int} {js : List Jb} (h1 : cls.length = 1) (hn : 0 ≤ now) (hl : ∀ j ∈ js, ofE cls j.width j.est = 0) : mulP cls [] s now js = easyP s now js true := by
  have h := one_easy (cls := cls) h1 hn js [] (Pas.new s) hl rfl (fun _ h => by cases h)
  unfold mulP easyP
  rw [← h]
  have e : mulTo cls [] now s js cls.length = ((mulIn cls now 0 true (Pas.new s) false 0 js).1, [(mulIn cls now 0 true (Pas.new s) false 0 js).2.1], (mulIn cls now 0 true (Pas.new s) false 0 js).2.2) := by
    rw [h1]; rfl
  rw [e]
  rfl
end Go.Proofs.Ytophhiejggnaeaa.MulPlain
namespace Go.Proofs.Ytophhiejggnaeaa.Mem
open Go.RowKit
/-- Block n is there, its first cells hold l, and they may be written. -/
structure Boxed (w : World) (n : Nat) (l : List Value) : Prop where
  lt : n < w.heap.size
  c : ∀ (i : Nat) (u : Value), l[i]? = some u → w.cell? ⟨n, i, none⟩ = some u
  f : ∀ (i : Nat) (u : Value), l[i]? = some u → w.frozen? ⟨n, i, none⟩ = false
section
variable {w w' : World} {n : Nat} {l : List Value}
theorem Boxed.new (w : World) (a : Array Value) (T : TypeId) : Boxed (w.alloc (.cells a T)) w.heap.size a.toList :=
  ⟨by simp, fun i u h => by have := (Raw.alloc w a T i u h).2; rwa [add_flat] at this, fun _ _ _ => World.frozen?_alloc_new _ _ _ _⟩
theorem Boxed.new_at {m : Nat} (a : Array Value) (T : TypeId) (e : w.heap.size = m) : Boxed (w.alloc (.cells a T)) m a.toList := by subst e; exact Boxed.new w a T
end
end Go.Proofs.Ytophhiejggnaeaa.Mem
namespace Go.Proofs.Ytophhiejggnaeaa.Mem
open Go.RowKit
/-- Of the elder blocks none but those of O. -/
def Owns (O O' : List Nat) (w : World) : Prop := ∀ i ∈ O', i ∈ O ∨ w.heap.size ≤ i
section
variable {O O' : List Nat} {w w' w2 : World}
theorem Owns.refl (O : List Nat) (w : World) : Owns O O w := fun _ hi => .inl hi
end
end Go.Proofs.Ytophhiejggnaeaa.Mem
namespace Go.Proofs.Ytophhiejggnaeaa.Mem
open Go.RowKit
/-- How a thing lies in cells. -/
structure Lay (α : Type) where
  k : Nat
  cs : α → List Value
  len : ∀ x, (cs x).length = k
  one : ∀ x, ∀ u ∈ cs x, u.oneCell' = true
  pos : 0 < k
section
variable {α : Type} (L : Lay α)
def Lay.vals (l : List α) : List Value := l.flatMap L.cs
theorem Lay.cons (x : α) (l : List α) : L.vals (x :: l) = L.cs x ++ L.vals l := rfl
theorem Lay.snoc (l : List α) (x : α) : L.vals (l ++ [x]) = L.vals l ++ L.cs x := by simp [Lay.vals]
theorem Lay.vals_len (l : List α) : (L.vals l).length = l.length * L.k := by
  induction l with
  | nil => simp [Lay.vals]
  | cons s l ih => rw [L.cons, List.length_append, ih, L.len, List.length_cons, Nat.add_mul]; omega
theorem Lay.cell (l : List α) : ∀ u ∈ L.vals l, u.oneCell' = true := by
  intro u hu
  obtain ⟨s, _, h⟩ := List.mem_flatMap.1 hu
  exact L.one s u h
theorem Lay.vals_at (l : List α) : ∀ i (hi : i < l.length) (f : Nat), f < L.k → (L.vals l)[i * L.k + f]? = (L.cs l[i])[f]? := by
  induction l with
  | nil => intro i h; simp at h
  | cons s l ih =>
    intro i h f hf
    rw [L.cons]
    cases i with
    | zero => rw [Nat.zero_mul, Nat.zero_add, List.getElem?_append_left (by rw [L.len]; exact hf)]; rfl
    | succ i =>
      rw [Nat.add_mul, Nat.one_mul, List.getElem?_append_right (by rw [L.len]; omega), L.len, show i * L.k + L.k + f - L.k = i * L.k + f by omega, ih i (by simpa using h) f hf]
      rfl
/-- A slice of such things, nil let in. -/
def Lay.Is (l : List α) (w : World) (v : Value) : Prop := (v = .slice none 0 0 ∧ l = []) ∨ ∃ a c, v = .slice (some a) l.length c ∧ Raw w a (L.vals l) ∧ l.length ≤ c
/-- A thing's cells from a place on. -/
structure Lay.At (w : World) (p : Addr) (x : α) : Prop where
  lt : p.block < w.heap.size
  c0 : ∀ u, (L.cs x)[0]? = some u → w.cell? p = some u
  c : ∀ f u, 0 < f → (L.cs x)[f]? = some u → w.cell? ⟨p.block, p.off + f, none⟩ = some u
end
theorem add_over (a : Addr) (k f : Nat) (hf : 0 < f) : a.add (k + f) = ⟨(a.add k).block, (a.add k).off + f, none⟩ := by
  unfold Addr.add
  by_cases h0 : k = 0
  · subst h0; simp; omega
  · simp [h0, Nat.add_assoc]
section
variable {α : Type} {L : Lay α} {l : List α} {w w' : World} {v : Value}
theorem Lay.Is.below (h : L.Is l w v) (hb : Below w.heap.size w w') : L.Is l w' v := by
  rcases h with h | ⟨a, c, e, hr, hn⟩
  · exact .inl h
  · exact .inr ⟨a, c, e, hr.below hb, hn⟩
theorem Lay.Is.src (h : L.Is l w v) : Src w v l.length (L.vals l) := by
  rcases h with ⟨h, rfl⟩ | ⟨a, c, e, hr, _⟩
  · exact .inl ⟨h, rfl, rfl⟩
  · exact .inr ⟨a, c, e, hr⟩
theorem Lay.at_ {a : Addr} (h : Raw w a (L.vals l)) {i : Nat} (hi : i < l.length) : L.At w (a.add (i * L.k)) l[i] := by
  have hat : ∀ f u, (L.cs l[i])[f]? = some u → a.block < w.heap.size ∧ w.cell? (a.add (i * L.k + f)) = some u := fun f u hu => by
    have hf : f < L.k := by
      have := (List.getElem?_eq_some_iff.1 hu).1
      rwa [L.len] at this
    exact h _ u ((L.vals_at l i hi f hf).trans hu)
  have hlt : a.block < w.heap.size := by
    have h0 : (L.cs l[i])[0]? = some ((L.cs l[i])[0]'(by rw [L.len]; exact L.pos)) := List.getElem?_eq_getElem _
    exact (hat 0 _ h0).1
  refine ⟨by rw [add_block]; exact hlt, fun u hu => (hat 0 u hu).2, fun f u h1 hu => ?_⟩
  have := (hat f u hu).2
  rwa [add_over a _ f h1] at this
theorem Lay.Is.open_ (h : L.Is l w v) : ∃ A c, v = .slice A l.length c ∧ l.length ≤ c ∧ ∀ i (hi : i < l.length), ∃ a, A = some a ∧ L.At w (a.add (i * L.k)) l[i] := by
  rcases h with ⟨rfl, rfl⟩ | ⟨a, c, e, hr, hn⟩
  · exact ⟨none, 0, rfl, Nat.le_refl _, fun i hi => absurd hi (Nat.not_lt_zero _)⟩
  · exact ⟨some a, c, e, hn, fun i hi => ⟨a, rfl, Lay.at_ hr hi⟩⟩
theorem Lay.Is.own {base n : Nat} {e : TypeId} (h : OwnN e L.k base w v n (L.vals l)) (hn : n = l.length) : L.Is l w v := by
  subst hn
  rcases h.form with ⟨h1, h2, _⟩ | ⟨g, c, hv, _, _, hn, _, hr, _⟩
  · exact .inl ⟨h1, List.eq_nil_of_length_eq_zero h2⟩
  · exact .inr ⟨_, c, hv, hr, hn⟩
theorem Lay.raw_of {a : Addr} (h : ∀ i x, l[i]? = some x → a.block < w.heap.size ∧ ∀ f u, (L.cs x)[f]? = some u → w.cell? (a.add (i * L.k + f)) = some u) : Raw w a (L.vals l) := by
  intro q u hu
  have hk := L.pos
  have hq : q < l.length * L.k := by
    have := (List.getElem?_eq_some_iff.1 hu).1
    rwa [L.vals_len] at this
  have hi : q / L.k < l.length := Nat.div_lt_of_lt_mul (by rw [Nat.mul_comm]; exact hq)
  have hf : q % L.k < L.k := Nat.mod_lt _ hk
  have e : q = q / L.k * L.k + q % L.k := by rw [Nat.mul_comm]; exact (Nat.div_add_mod q L.k).symm
  obtain ⟨h1, h2⟩ := h (q / L.k) l[q / L.k] (by simp [hi])
  refine ⟨h1, ?_⟩
  rw [e] at hu ⊢
  rw [L.vals_at l (q / L.k) hi (q % L.k) hf] at hu
  exact h2 _ _ hu
end
theorem list_by {α : Type} {P : Nat → α → Prop} : ∀ n : Nat, (∀ i, i < n → ∃ s, P i s) → ∃ l : List α, l.length = n ∧ ∀ i s, l[i]? = some s → P i s := by
  intro n
  induction n with
  | zero => intro _; exact ⟨[], rfl, fun i s h => by simp at h⟩
  | succ n ih =>
    intro h
    obtain ⟨l, hl, hp⟩ := ih fun i hi => h i (by omega)
    obtain ⟨s, hs⟩ := h n (by omega)
    refine ⟨l ++ [s], by simp [hl], fun i x hx => ?_⟩
    rcases Nat.lt_trichotomy i n with hi | hi | hi
    · rw [List.getElem?_append_left (by omega)] at hx; exact hp i x hx
    · subst hi
      rw [List.getElem?_append_right (by omega), hl, Nat.sub_self] at hx
      simp at hx
      subst hx; exact hs
    · rw [List.getElem?_append_right (by omega)] at hx
      have : i - l.length = i - l.length - 1 + 1 := by omega
      rw [this] at hx
      simp at hx
end Go.Proofs.Ytophhiejggnaeaa.Mem
namespace Go.Proofs.Ytophhiejggnaeaa.ApiMem
open Go.RowKit Go.Proofs.Ytophhiejggnaeaa.ApiPlain Go.Proofs.Ytophhiejggnaeaa.Mem
def clC (x : Cl) : List Value := [.string x.name, .int .i64 x.minW, .int .i64 x.maxW, .int .i64 x.minE, .int .i64 x.maxE] -- 51
def clV (x : Cl) : Value := .agg #[.string x.name, .int .i64 x.minW, .int .i64 x.maxW, .int .i64 x.minE, .int .i64 x.maxE] -- 51
theorem clC_cell (x : Cl) : ∀ u ∈ clC x, u.oneCell' = true := by -- 51
  intro u hu
  simp [clC] at hu
  rcases hu with rfl | rfl | rfl | rfl | rfl <;> rfl
def clL : Lay Cl := ⟨5, clC, fun _ => rfl, clC_cell, by decide⟩ -- 51
structure ClAt (w : World) (p : Addr) (x : Cl) : Prop where -- 51
  lt : p.block < w.heap.size
  c0 : w.cell? p = some (.string x.name)
  c1 : w.cell? ⟨p.block, p.off + 1, none⟩ = some (.int .i64 x.minW)
  c2 : w.cell? ⟨p.block, p.off + 2, none⟩ = some (.int .i64 x.maxW)
  c3 : w.cell? ⟨p.block, p.off + 3, none⟩ = some (.int .i64 x.minE)
  c4 : w.cell? ⟨p.block, p.off + 4, none⟩ = some (.int .i64 x.maxE)
theorem ClAt.below {w w' : World} {p : Addr} {x : Cl} (h : ClAt w p x) (hb : Below w.heap.size w w') : ClAt w' p x := by -- 51
  have hc : ∀ o, w'.cell? ⟨p.block, o, none⟩ = w.cell? ⟨p.block, o, none⟩ := fun o => hb.cell (p := ⟨p.block, o, none⟩) h.lt
  exact ⟨Nat.lt_of_lt_of_le h.lt hb.size, (hb.cell h.lt).trans h.c0, (hc _).trans h.c1, (hc _).trans h.c2, (hc _).trans h.c3, (hc _).trans h.c4⟩
theorem ClAt.of {w : World} {p : Addr} {x : Cl} (h : clL.At w p x) : ClAt w p x := ⟨h.lt, h.c0 _ rfl, h.c 1 _ (by decide) rfl, h.c 2 _ (by decide) rfl, h.c 3 _ (by decide) rfl, h.c 4 _ (by decide) rfl⟩ -- 51
theorem cls_open {l : List Cl} {w : World} {v : Value} (h : clL.Is l w v) : ∃ A c, v = .slice A l.length c ∧ l.length ≤ c ∧ ∀ i (hi : i < l.length), ∃ a, A = some a ∧ ClAt w (a.add (i * 5)) l[i] := by -- 51
  obtain ⟨A, c, e, hn, hat⟩ := h.open_
  exact ⟨A, c, e, hn, fun i hi => by
    obtain ⟨a, ea, h1⟩ := hat i hi
    exact ⟨a, ea, ClAt.of h1⟩⟩
structure ClBox (w : World) (n : Nat) (x : Cl) : Prop where -- 51
  lt : n < w.heap.size
  c0 : w.cell? ⟨n, 0, none⟩ = some (.string x.name)
  c1 : w.cell? ⟨n, 1, none⟩ = some (.int .i64 x.minW)
  c2 : w.cell? ⟨n, 2, none⟩ = some (.int .i64 x.maxW)
  c3 : w.cell? ⟨n, 3, none⟩ = some (.int .i64 x.minE)
  c4 : w.cell? ⟨n, 4, none⟩ = some (.int .i64 x.maxE)
  f0 : w.frozen? ⟨n, 0, none⟩ = false
  f1 : w.frozen? ⟨n, 1, none⟩ = false
  f2 : w.frozen? ⟨n, 2, none⟩ = false
  f3 : w.frozen? ⟨n, 3, none⟩ = false
  f4 : w.frozen? ⟨n, 4, none⟩ = false
theorem ClBox.of {w : World} {n : Nat} {x : Cl} (h : Boxed w n (clC x)) : ClBox w n x := ⟨h.lt, h.c 0 _ rfl, h.c 1 _ rfl, h.c 2 _ rfl, h.c 3 _ rfl, h.c 4 _ rfl, h.f 0 _ rfl, h.f 1 _ rfl, h.f 2 _ rfl, h.f 3 _ rfl, h.f 4 _ rfl⟩ -- 51
theorem ClBox.new_at {w : World} {n : Nat} (e : w.heap.size = n) (x : Cl) (T : TypeId) : ClBox (w.alloc (.cells #[.string x.name, .int .i64 x.minW, .int .i64 x.maxW, .int .i64 x.minE, .int .i64 x.maxE] T)) n x := ClBox.of (Boxed.new_at #[.string x.name, .int .i64 x.minW, .int .i64 x.maxW, .int .i64 x.minE, .int .i64 x.maxE] T e) -- 51
theorem ClBox.new (w : World) (x : Cl) (T : TypeId) : ClBox (w.alloc (.cells #[.string x.name, .int .i64 x.minW, .int .i64 x.maxW, .int .i64 x.minE, .int .i64 x.maxE] T)) w.heap.size x := ClBox.new_at rfl x T -- 51
theorem ClBox.of_block {w w' : World} {n : Nat} {x : Cl} (h : ClBox w n x) (hs : n < w'.heap.size) (e : w'.heap[n]? = w.heap[n]?) : ClBox w' n x := by -- 51
  have hc : ∀ i, w'.cell? ⟨n, i, none⟩ = w.cell? ⟨n, i, none⟩ := fun i => World.cell?_of_block (a := ⟨n, i, none⟩) e
  have hf : ∀ i, w'.frozen? ⟨n, i, none⟩ = w.frozen? ⟨n, i, none⟩ := fun i => World.frozen?_of_block (a := ⟨n, i, none⟩) e
  exact ⟨hs, (hc 0).trans h.c0, (hc 1).trans h.c1, (hc 2).trans h.c2, (hc 3).trans h.c3, (hc 4).trans h.c4, (hf 0).trans h.f0, (hf 1).trans h.f1, (hf 2).trans h.f2, (hf 3).trans h.f3, (hf 4).trans h.f4⟩
theorem ClBox.below {w w' : World} {n : Nat} {x : Cl} (h : ClBox w n x) (hb : Below w.heap.size w w') : ClBox w' n x := h.of_block (Nat.lt_of_lt_of_le h.lt hb.size) (hb.block n h.lt) -- 51
theorem ClBox.alloc {w : World} {n : Nat} {x : Cl} (h : ClBox w n x) (o : Obj) : ClBox (w.alloc o) n x := h.below ((Below.refl _ _).alloc (Nat.le_refl _) o) -- 51
theorem ClBox.drewN {w : World} {n : Nat} {x : Cl} (h : ClBox w n x) (q : Nat) : ClBox (w.drewN q) n x := ⟨h.lt, h.c0, h.c1, h.c2, h.c3, h.c4, h.f0, h.f1, h.f2, h.f3, h.f4⟩ -- 51
def prmC (x : Prm) : List Value := [.int .i64 x.id, .int .i64 x.at_, .int .i64 x.slack] -- 41
def prmV (x : Prm) : Value := .agg #[.int .i64 x.id, .int .i64 x.at_, .int .i64 x.slack] -- 41
theorem prmC_cell (x : Prm) : ∀ u ∈ prmC x, u.oneCell' = true := by -- 41
  intro u hu
  simp [prmC] at hu
  rcases hu with rfl | rfl | rfl <;> rfl
def prmL : Lay Prm := ⟨3, prmC, fun _ => rfl, prmC_cell, by decide⟩ -- 41
theorem prm_t : ElemT Try.prog 35 41 3 24 := ElemT.mk_ (.agg #[.int .i64 0, .int .i64 0, .int .i64 0]) Try.underlying35 (by kernel_rfl) rfl (by decide) (by decide)
structure PrmAt (w : World) (p : Addr) (x : Prm) : Prop where -- 41
  lt : p.block < w.heap.size
  c0 : w.cell? p = some (.int .i64 x.id)
  c1 : w.cell? ⟨p.block, p.off + 1, none⟩ = some (.int .i64 x.at_)
  c2 : w.cell? ⟨p.block, p.off + 2, none⟩ = some (.int .i64 x.slack)
theorem PrmAt.below {w w' : World} {p : Addr} {x : Prm} (h : PrmAt w p x) (hb : Below w.heap.size w w') : PrmAt w' p x := by -- 41
  have hc : ∀ o, w'.cell? ⟨p.block, o, none⟩ = w.cell? ⟨p.block, o, none⟩ := fun o => hb.cell (p := ⟨p.block, o, none⟩) h.lt
  exact ⟨Nat.lt_of_lt_of_le h.lt hb.size, (hb.cell h.lt).trans h.c0, (hc _).trans h.c1, (hc _).trans h.c2⟩
theorem PrmAt.of {w : World} {p : Addr} {x : Prm} (h : prmL.At w p x) : PrmAt w p x := ⟨h.lt, h.c0 _ rfl, h.c 1 _ (by decide) rfl, h.c 2 _ (by decide) rfl⟩ -- 41
theorem prms_open {l : List Prm} {w : World} {v : Value} (h : prmL.Is l w v) : ∃ A c, v = .slice A l.length c ∧ l.length ≤ c ∧ ∀ i (hi : i < l.length), ∃ a, A = some a ∧ PrmAt w (a.add (i * 3)) l[i] := by -- 41
  obtain ⟨A, c, e, hn, hat⟩ := h.open_
  exact ⟨A, c, e, hn, fun i hi => by
    obtain ⟨a, ea, h1⟩ := hat i hi
    exact ⟨a, ea, PrmAt.of h1⟩⟩
structure PrmBox (w : World) (n : Nat) (x : Prm) : Prop where -- 41
  lt : n < w.heap.size
  c0 : w.cell? ⟨n, 0, none⟩ = some (.int .i64 x.id)
  c1 : w.cell? ⟨n, 1, none⟩ = some (.int .i64 x.at_)
  c2 : w.cell? ⟨n, 2, none⟩ = some (.int .i64 x.slack)
  f0 : w.frozen? ⟨n, 0, none⟩ = false
  f1 : w.frozen? ⟨n, 1, none⟩ = false
  f2 : w.frozen? ⟨n, 2, none⟩ = false
theorem PrmBox.of {w : World} {n : Nat} {x : Prm} (h : Boxed w n (prmC x)) : PrmBox w n x := ⟨h.lt, h.c 0 _ rfl, h.c 1 _ rfl, h.c 2 _ rfl, h.f 0 _ rfl, h.f 1 _ rfl, h.f 2 _ rfl⟩ -- 41
end Go.Proofs.Ytophhiejggnaeaa.ApiMem
namespace Go.Proofs.Ytophhiejggnaeaa.JobMem
open Go.RowKit Go.Proofs.Ytophhiejggnaeaa.JobPlain Go.Proofs.Ytophhiejggnaeaa.Mem
def jobA (j : Jb) : Array Value := #[.int .i64 j.id, .string j.user, .int .i64 j.width, .int .i64 j.est, .int .i64 j.prio, .int .i64 j.sub, .int .i64 j.state, .int .i64 j.start, .int .i64 j.fin]
def jobV (j : Jb) : Value := .agg (jobA j)
/-- The box of a job: nine cells. -/
structure JobBox (w : World) (n : Nat) (j : Jb) : Prop where
  lt : n < w.heap.size
  c0 : w.cell? ⟨n, 0, none⟩ = some (.int .i64 j.id)
  c1 : w.cell? ⟨n, 1, none⟩ = some (.string j.user)
  c2 : w.cell? ⟨n, 2, none⟩ = some (.int .i64 j.width)
  c3 : w.cell? ⟨n, 3, none⟩ = some (.int .i64 j.est)
  c4 : w.cell? ⟨n, 4, none⟩ = some (.int .i64 j.prio)
  c5 : w.cell? ⟨n, 5, none⟩ = some (.int .i64 j.sub)
  c6 : w.cell? ⟨n, 6, none⟩ = some (.int .i64 j.state)
  c7 : w.cell? ⟨n, 7, none⟩ = some (.int .i64 j.start)
  c8 : w.cell? ⟨n, 8, none⟩ = some (.int .i64 j.fin)
  f0 : w.frozen? ⟨n, 0, none⟩ = false
  f1 : w.frozen? ⟨n, 1, none⟩ = false
  f2 : w.frozen? ⟨n, 2, none⟩ = false
  f3 : w.frozen? ⟨n, 3, none⟩ = false
  f4 : w.frozen? ⟨n, 4, none⟩ = false
  f5 : w.frozen? ⟨n, 5, none⟩ = false
  f6 : w.frozen? ⟨n, 6, none⟩ = false
  f7 : w.frozen? ⟨n, 7, none⟩ = false
  f8 : w.frozen? ⟨n, 8, none⟩ = false
section
variable {w w' : World} {n : Nat} {j : Jb}
theorem JobBox.of (h : Boxed w n (jobA j).toList) : JobBox w n j :=
  ⟨h.lt, h.c 0 _ rfl, h.c 1 _ rfl, h.c 2 _ rfl, h.c 3 _ rfl, h.c 4 _ rfl, h.c 5 _ rfl, h.c 6 _ rfl, h.c 7 _ rfl, h.c 8 _ rfl, h.f 0 _ rfl, h.f 1 _ rfl, h.f 2 _ rfl, h.f 3 _ rfl, h.f 4 _ rfl, h.f 5 _ rfl, h.f 6 _ rfl, h.f 7 _ rfl, h.f 8 _ rfl⟩
theorem JobBox.new (w : World) (j : Jb) (T : TypeId) : JobBox (w.alloc (.cells #[.int .i64 j.id, .string j.user, .int .i64 j.width, .int .i64 j.est, .int .i64 j.prio, .int .i64 j.sub, .int .i64 j.state, .int .i64 j.start, .int .i64 j.fin] T)) w.heap.size j := .of (Boxed.new w (jobA j) T)
theorem JobBox.of_block (h : JobBox w n j) (hs : n < w'.heap.size) (e : w'.heap[n]? = w.heap[n]?) : JobBox w' n j := by
  have hc : ∀ i, w'.cell? ⟨n, i, none⟩ = w.cell? ⟨n, i, none⟩ := fun i => World.cell?_of_block (a := ⟨n, i, none⟩) e
  have hf : ∀ i, w'.frozen? ⟨n, i, none⟩ = w.frozen? ⟨n, i, none⟩ := fun i => World.frozen?_of_block (a := ⟨n, i, none⟩) e
  exact ⟨hs, (hc 0).trans h.c0, (hc 1).trans h.c1, (hc 2).trans h.c2, (hc 3).trans h.c3, (hc 4).trans h.c4, (hc 5).trans h.c5, (hc 6).trans h.c6, (hc 7).trans h.c7, (hc 8).trans h.c8,
    (hf 0).trans h.f0, (hf 1).trans h.f1, (hf 2).trans h.f2, (hf 3).trans h.f3, (hf 4).trans h.f4, (hf 5).trans h.f5, (hf 6).trans h.f6, (hf 7).trans h.f7, (hf 8).trans h.f8⟩
theorem JobBox.below (h : JobBox w n j) (hb : Below w.heap.size w w') : JobBox w' n j := h.of_block (Nat.lt_of_lt_of_le h.lt hb.size) (hb.block n h.lt)
end
theorem JobBox.alloc {w : World} {n : Nat} {j : Jb} (h : JobBox w n j) (o : Obj) : JobBox (w.alloc o) n j := h.below ((Below.refl _ _).alloc (Nat.le_refl _) o)
/-- What is read of a job fits: its end does not run over. -/
def Fit (j : Jb) : Prop := -9223372036854775808 ≤ j.fin ∧ j.fin ≤ 9223372036854775807 ∧ j.user.size ≤ 9223372036854775807
end Go.Proofs.Ytophhiejggnaeaa.JobMem
namespace Go.Proofs.Ytophhiejggnaeaa.OrdMem
open Go.RowKit Go.Proofs.Ytophhiejggnaeaa.JobPlain Go.Proofs.Ytophhiejggnaeaa.OrdPlain Go.Proofs.Ytophhiejggnaeaa.Mem Go.Proofs.Ytophhiejggnaeaa.JobMem
theorem jobs_t : ElemT Try.prog 23 45 9 80 := ElemT.mk_ (.agg #[.int .i64 0, .string ⟨#[]⟩, .int .i64 0, .int .i64 0, .int .i64 0, .int .i64 0, .int .i64 0, .int .i64 0, .int .i64 0]) Try.underlying23 (by kernel_rfl) rfl (by decide) (by decide)
theorem below_box (w : World) (o : Obj) : Below w.heap.size w (w.alloc o) := (Below.refl _ _).alloc (Nat.le_refl _) o
def jobC (j : Jb) : List Value := [.int .i64 j.id, .string j.user, .int .i64 j.width, .int .i64 j.est, .int .i64 j.prio, .int .i64 j.sub, .int .i64 j.state, .int .i64 j.start, .int .i64 j.fin]
def jvals (l : List Jb) : List Value := l.flatMap jobC
theorem jvals_append (l m : List Jb) : jvals (l ++ m) = jvals l ++ jvals m := by simp [jvals]
theorem jvals_len (l : List Jb) : (jvals l).length = l.length * 9 := by
  induction l with
  | nil => rfl
  | cons s l ih => simp only [jvals, List.flatMap_cons, List.length_append, List.length_cons] at *; rw [ih]; simp [jobC]; omega
theorem jobC_cell (j : Jb) : ∀ u ∈ jobC j, u.oneCell' = true := by
  intro u hu
  simp [jobC] at hu
  rcases hu with rfl | rfl | rfl | rfl | rfl | rfl | rfl | rfl | rfl <;> rfl
theorem jvals_at (l : List Jb) : ∀ i (hi : i < l.length) (f : Nat), f < 9 → (jvals l)[i * 9 + f]? = (jobC l[i])[f]? := by
  induction l with
  | nil => intro i h; simp at h
  | cons s l ih =>
    intro i h f hf
    have e : jvals (s :: l) = jobC s ++ jvals l := rfl
    rw [e]
    cases i with
    | zero =>
      rw [Nat.zero_mul, Nat.zero_add, List.getElem?_append_left (by simp [jobC]; omega)]
      rfl
    | succ i =>
      rw [List.getElem?_append_right (by simp [jobC]; omega)]
      have h1 := ih i (by simpa using h) f hf
      rw [show (i + 1) * 9 + f - (jobC s).length = i * 9 + f by simp [jobC]; omega, h1]
      rfl
/-- A slice of jobs, nil let in. -/
def JobsIs (l : List Jb) (w : World) (v : Value) : Prop := (v = .slice none 0 0 ∧ l = []) ∨ ∃ a c, v = .slice (some a) l.length c ∧ Raw w a (jvals l) ∧ l.length ≤ c
theorem JobsIs.below {l : List Jb} {w w' : World} {v : Value} (h : JobsIs l w v) (hb : Below w.heap.size w w') : JobsIs l w' v := by
  rcases h with h | ⟨a, c, e, hr, hn⟩
  · exact .inl h
  · exact .inr ⟨a, c, e, hr.below hb, hn⟩
/-- A job's cells from a place on. -/
structure JobAt (w : World) (p : Addr) (j : Jb) : Prop where
  lt : p.block < w.heap.size
  c0 : w.cell? p = some (.int .i64 j.id)
  c1 : w.cell? ⟨p.block, p.off + 1, none⟩ = some (.string j.user)
  c2 : w.cell? ⟨p.block, p.off + 2, none⟩ = some (.int .i64 j.width)
  c3 : w.cell? ⟨p.block, p.off + 3, none⟩ = some (.int .i64 j.est)
  c4 : w.cell? ⟨p.block, p.off + 4, none⟩ = some (.int .i64 j.prio)
  c5 : w.cell? ⟨p.block, p.off + 5, none⟩ = some (.int .i64 j.sub)
  c6 : w.cell? ⟨p.block, p.off + 6, none⟩ = some (.int .i64 j.state)
  c7 : w.cell? ⟨p.block, p.off + 7, none⟩ = some (.int .i64 j.start)
  c8 : w.cell? ⟨p.block, p.off + 8, none⟩ = some (.int .i64 j.fin)
theorem JobAt.below {w w' : World} {p : Addr} {j : Jb} (h : JobAt w p j) (hb : Below w.heap.size w w') : JobAt w' p j := by
  have hc : ∀ o, w'.cell? ⟨p.block, o, none⟩ = w.cell? ⟨p.block, o, none⟩ := fun o => hb.cell (p := ⟨p.block, o, none⟩) h.lt
  exact ⟨Nat.lt_of_lt_of_le h.lt hb.size, (hb.cell h.lt).trans h.c0, (hc _).trans h.c1, (hc _).trans h.c2, (hc _).trans h.c3, (hc _).trans h.c4, (hc _).trans h.c5, (hc _).trans h.c6, (hc _).trans h.c7, (hc _).trans h.c8⟩
theorem add_more (a : Addr) (k f : Nat) (hf : 0 < f) : a.add (k + f) = ⟨(a.add k).block, (a.add k).off + f, none⟩ := by
  unfold Addr.add
  by_cases h0 : k = 0
  · subst h0; simp; omega
  · simp [h0, Nat.add_assoc]
theorem jobs_at {l : List Jb} {w : World} {a : Addr} (h : Raw w a (jvals l)) {i : Nat} (hi : i < l.length) : JobAt w (a.add (i * 9)) l[i] := by
  have hat : ∀ f u, f < 9 → (jobC l[i])[f]? = some u → a.block < w.heap.size ∧ w.cell? (a.add (i * 9 + f)) = some u := fun f u hf hu => h _ u ((jvals_at l i hi f hf).trans hu)
  have h0 := hat 0 _ (by decide) rfl
  have hx : ∀ f u, 0 < f → f < 9 → (jobC l[i])[f]? = some u → w.cell? ⟨(a.add (i * 9)).block, (a.add (i * 9)).off + f, none⟩ = some u := fun f u h1 hf hu => by
    have := (hat f u hf hu).2
    rwa [add_more a _ f h1] at this
  exact ⟨by rw [add_block]; exact h0.1, h0.2, hx 1 _ (by decide) (by decide) rfl, hx 2 _ (by decide) (by decide) rfl, hx 3 _ (by decide) (by decide) rfl, hx 4 _ (by decide) (by decide) rfl, hx 5 _ (by decide) (by decide) rfl, hx 6 _ (by decide) (by decide) rfl, hx 7 _ (by decide) (by decide) rfl, hx 8 _ (by decide) (by decide) rfl⟩
theorem JobsIs.open_ {l : List Jb} {w : World} {v : Value} (h : JobsIs l w v) : ∃ A c, v = .slice A l.length c ∧ l.length ≤ c ∧ ∀ i (hi : i < l.length), ∃ a, A = some a ∧ JobAt w (a.add (i * 9)) l[i] := by
  rcases h with ⟨rfl, rfl⟩ | ⟨a, c, e, hr, hn⟩
  · exact ⟨none, 0, rfl, Nat.le_refl _, fun i hi => absurd hi (Nat.not_lt_zero _)⟩
  · exact ⟨some a, c, e, hn, fun i hi => ⟨a, rfl, jobs_at hr hi⟩⟩
end Go.Proofs.Ytophhiejggnaeaa.OrdMem
namespace Go.Proofs.Ytophhiejggnaeaa.OrdRef
open Go.RowKit Go.Proofs.Ytophhiejggnaeaa.JobPlain Go.Proofs.Ytophhiejggnaeaa.OrdPlain Go.Proofs.Ytophhiejggnaeaa.Mem Go.Proofs.Ytophhiejggnaeaa.JobMem Go.Proofs.Ytophhiejggnaeaa.OrdMem
def IntQ (n : Int) (w : World) (e : Ending) (w' : World) : Prop := e = .returned (.int .i64 n) ∧ w = w'
set_option maxHeartbeats 800000 in
theorem find8 (l : List Jb) (id : Int) (v : Value) (w : World) (hv : JobsIs l w v) (hl : l.length ≤ 100000) : Calls Try.prog 9 #[v, .int .i64 id] w (IntQ (findL l id) w) := by
  obtain ⟨A, c, rfl, hn, hA⟩ := hv.open_
  have HA := Lib.hid hA
  clear hA hv
  go_enter Try.func9, Try.ntmps9
  go_wp2_with fail
  go_loop [5] (fun i => ∃ k : Nat, k ≤ l.length ∧ i = .int .i64 k ∧ Hid (∀ i (hi : i < l.length), i < k → (l[i].id == id) = false)) (fun i => l.length - (intOf i).toNat)
  case atStart => exact ⟨0, Nat.zero_le _, rfl, fun _ _ h => absurd h (Nat.not_lt_zero _)⟩
  case round =>
    obtain ⟨k, hk, rfl, HD⟩ := hrel
    by_cases hlt : k < l.length
    · obtain ⟨a, rfl, ⟨p, p0, p1, p2, p3, p4, p5, p6, p7, p8⟩⟩ := HA.out k hlt
      have hlt2 : (k : Int) < (l.length : Int) := by omega
      have hkn : (0 : Int) ≤ (k : Int) := by omega
      have HF := Lib.hid (fun h => find_at (id := id) hlt HD.out h)
      have HN : Hid ((l[k].id == id) = false → ∀ i (hi : i < l.length), i < k + 1 → (l[i].id == id) = false) := fun h i hi hi2 => by
        by_cases he : i = k
        · subst he; exact h
        · exact HD.out i hi (by omega)
      generalize l[k] = j at *
      cases hd : (j.id == id)
      · go_wp2_with fail
        exact ⟨⟨k + 1, by omega, by go_num, HN.out hd⟩, by simp [intOf]; omega⟩
      · go_wp2_with fail
        go_ret
        rw [HF.out hd]
        exact ⟨rfl, rfl⟩
    · have HF := Lib.hid (find_none (l := l) (id := id) (fun i hi => HD.out i hi (by omega)))
      go_wp2_with fail
      go_ret
      rw [HF.out]
      exact ⟨rfl, rfl⟩
end Go.Proofs.Ytophhiejggnaeaa.OrdRef
namespace Go.Proofs.Ytophhiejggnaeaa.SlaRef
open Go.RowKit Go.Proofs.Ytophhiejggnaeaa.SpanPlain Go.Proofs.Ytophhiejggnaeaa.StepPlain Go.Proofs.Ytophhiejggnaeaa.GapPlain Go.Proofs.Ytophhiejggnaeaa.JobPlain Go.Proofs.Ytophhiejggnaeaa.OrdPlain Go.Proofs.Ytophhiejggnaeaa.ApiPlain Go.Proofs.Ytophhiejggnaeaa.ShaPlain Go.Proofs.Ytophhiejggnaeaa.SlaPlain Go.Proofs.Ytophhiejggnaeaa.Mem Go.Proofs.Ytophhiejggnaeaa.JobMem Go.Proofs.Ytophhiejggnaeaa.OrdMem Go.Proofs.Ytophhiejggnaeaa.ApiMem
def BoolL (b : Bool) (w : World) (e : Ending) (w' : World) : Prop := e = .returned (.bool b) ∧ Below w.heap.size w w'
theorem ne_prm (w : World) (x : Prm) : (binOp .neq 41 (prmV x) (prmV x)).run Try.prog w = .ok (.bool false) w := by
  have h1 : Try.prog.underlying 41 = some (.struct (Try.prog.fieldsOf 41)) := by kernel_rfl
  unfold prmV
  simp [go_sem]
end Go.Proofs.Ytophhiejggnaeaa.SlaRef
namespace Go.Proofs.Ytophhiejggnaeaa.SpanMem
open Go.RowKit Go.Proofs.Ytophhiejggnaeaa.SpanPlain Go.Proofs.Ytophhiejggnaeaa.Mem
theorem ints_t : ElemT Try.prog 34 3 1 8 := ElemT.mk_ (.int .i64 0) Try.underlying34 (by kernel_rfl) rfl (by decide) (by decide)
theorem spans_t : ElemT Try.prog 92 74 2 16 := ElemT.mk_ (.agg #[.int .i64 0, .int .i64 0]) Try.underlying92 (by kernel_rfl) rfl (by decide) (by decide)
def spV (s : Sp) : Value := .agg #[.int .i64 s.1, .int .i64 s.2]
def spCells (s : Sp) : List Value := [.int .i64 s.1, .int .i64 s.2]
def svals (l : List Sp) : List Value := l.flatMap spCells
theorem svals_append (l m : List Sp) : svals (l ++ m) = svals l ++ svals m := by simp [svals]
theorem svals_len (l : List Sp) : (svals l).length = l.length * 2 := by
  induction l with
  | nil => rfl
  | cons s l ih => simp only [svals, List.flatMap_cons, List.length_append, List.length_cons] at *; rw [ih]; simp [spCells]; omega
theorem svals_cell (l : List Sp) : ∀ u ∈ svals l, u.oneCell' = true := by
  intro u hu
  obtain ⟨s, _, h⟩ := List.mem_flatMap.1 hu
  simp [spCells] at h
  rcases h with rfl | rfl <;> rfl
def spCell (l : List Sp) (i : Nat) : Value × Value := (.int .i64 (l.getD i (0, 0)).1, .int .i64 (l.getD i (0, 0)).2)
theorem svals_at (l : List Sp) : ∀ i, i < l.length → (svals l)[i * 2]? = some (spCell l i).1 ∧ (svals l)[i * 2 + 1]? = some (spCell l i).2 := by
  induction l with
  | nil => intro i h; simp at h
  | cons s l ih =>
    intro i h
    cases i with
    | zero => exact ⟨rfl, rfl⟩
    | succ i =>
      obtain ⟨h1, h2⟩ := ih i (by simpa using h)
      have e : svals (s :: l) = .int .i64 s.1 :: .int .i64 s.2 :: svals l := rfl
      rw [e, show (i + 1) * 2 = i * 2 + 1 + 1 by omega]
      exact ⟨h1, h2⟩
/-- A slice of spans, nil let in. -/
def SpansIs (l : List Sp) (w : World) (v : Value) : Prop := (v = .slice none 0 0 ∧ l = []) ∨ ∃ a c, v = .slice (some a) l.length c ∧ Raw w a (svals l) ∧ l.length ≤ c
theorem SpansIs.below {l : List Sp} {w w' : World} {v : Value} (h : SpansIs l w v) (hb : Below w.heap.size w w') : SpansIs l w' v := by
  rcases h with h | ⟨a, c, e, hr, hn⟩
  · exact .inl h
  · exact .inr ⟨a, c, e, hr.below hb, hn⟩
theorem SpansIs.open2 {l : List Sp} {w : World} {v : Value} (h : SpansIs l w v) : ∃ A c, v = .slice A l.length c ∧ l.length ≤ c ∧ Pairs w A l.length (spCell l) := by
  rcases h with ⟨rfl, rfl⟩ | ⟨a, c, e, hr, hn⟩
  · exact ⟨none, 0, rfl, Nat.le_refl _, Pairs.none_⟩
  · refine ⟨some a, c, e, hn, fun i hi => ⟨a, rfl, (hr _ _ (svals_at l i hi).1).1, ?_, ?_⟩⟩
    · exact (hr _ _ (svals_at l i hi).1).2
    · have h2 := (hr _ _ (svals_at l i hi).2).2
      have e : a.add (i * 2 + 1) = ⟨(a.add (i * 2)).block, (a.add (i * 2)).off + 1, none⟩ := by
        unfold Addr.add
        by_cases h0 : i * 2 = 0 <;> simp [h0, Nat.add_assoc]
      rwa [e] at h2
theorem SpansIs.open_ {l : List Sp} {w : World} {v : Value} (h : SpansIs l w v) : ∃ A c, v = .slice A l.length c ∧ Pairs w A l.length (spCell l) := by
  obtain ⟨A, c, e, _, hp⟩ := h.open2
  exact ⟨A, c, e, hp⟩
theorem OwnR.spans {base n : Nat} {w : World} {v : Value} {l : List Sp} {e : TypeId} (h : OwnR e 2 base w v n (svals l)) (hn : n = l.length) : SpansIs l w v := by
  subst hn
  obtain ⟨g, c, rfl, _, _, hn, _, h3, _⟩ := h.form
  exact .inr ⟨_, c, rfl, h3, hn⟩
theorem pairs_held {w w' : World} {a : Addr} {k : Nat} {u v : Value} (hb : Below w.heap.size w w') (h1 : w.cell? (a.add k) = some u) (h2 : w.cell? ⟨(a.add k).block, (a.add k).off + 1, none⟩ = some v) (hl : a.block < w.heap.size) :
    w'.cell? (a.add k) = some u ∧ w'.cell? ⟨(a.add k).block, (a.add k).off + 1, none⟩ = some v ∧ a.block < w'.heap.size := by
  obtain ⟨a1, a2, a3⟩ := pair_below hb hl h1 h2
  exact ⟨a2, a3, a1⟩
theorem list_of {α : Type} {P : Nat → α → Prop} : ∀ n : Nat, (∀ i, i < n → ∃ s, P i s) → ∃ l : List α, l.length = n ∧ ∀ i s, l[i]? = some s → P i s := by
  intro n
  induction n with
  | zero => intro _; exact ⟨[], rfl, fun i s h => by simp at h⟩
  | succ n ih =>
    intro h
    obtain ⟨l, hl, hp⟩ := ih fun i hi => h i (by omega)
    obtain ⟨s, hs⟩ := h n (by omega)
    refine ⟨l ++ [s], by simp [hl], fun i x hx => ?_⟩
    rcases Nat.lt_trichotomy i n with hi | hi | hi
    · rw [List.getElem?_append_left (by omega)] at hx; exact hp i x hx
    · subst hi
      rw [List.getElem?_append_right (by omega), hl, Nat.sub_self] at hx
      simp at hx
      subst hx; exact hs
    · rw [List.getElem?_append_right (by omega)] at hx
      have : i - l.length = i - l.length - 1 + 1 := by omega
      rw [this] at hx
      simp at hx
theorem svals_raw {l : List Sp} {w : World} {a : Addr} (h : ∀ i s, l[i]? = some s → a.block < w.heap.size ∧ w.cell? (a.add (i * 2)) = some (.int .i64 s.1) ∧ w.cell? (a.add (i * 2 + 1)) = some (.int .i64 s.2)) : Raw w a (svals l) := by
  intro j u hu
  have hj : j < l.length * 2 := by
    have := (List.getElem?_eq_some_iff.1 hu).1
    rwa [svals_len] at this
  have hi : j / 2 < l.length := by omega
  obtain ⟨h1, h2⟩ := svals_at l (j / 2) hi
  have hg : l[j / 2]? = some (l.getD (j / 2) (0, 0)) := by simp [List.getD, hi]
  obtain ⟨g1, g2, g3⟩ := h _ _ hg
  refine ⟨g1, ?_⟩
  by_cases he : j % 2 = 0
  · have e : j = j / 2 * 2 := by omega
    rw [← e] at h1 g2
    rw [h1] at hu
    injection hu with hu
    subst hu
    exact g2
  · have e : j = j / 2 * 2 + 1 := by omega
    rw [← e] at h2 g3
    rw [h2] at hu
    injection hu with hu
    subst hu
    exact g3
end Go.Proofs.Ytophhiejggnaeaa.SpanMem
