/-
  What the theorem uses of the texts below it.
-/
import Derived.Below
import Derived.Laws.OwnMore
import Derived.Deep.Draws
import Derived.Deep.OwnRows
import Derived.Lib.Hide
import Derived.OwnWalk
import Derived.Deep.QuietTactic
import Derived.BigQuiet
import Derived.Lib.SliceRun
import Derived.Test.YtophhiejggnaeaaRows
import Derived.WalkKit
import Derived.WalkSpells
import Derived.WalkLawsBesides
import Derived.Laws.StructEq
import Derived.LoopTactic
import Derived.Deep.CutBlock
import Derived.Deep.DeepCutAuto
import Derived.Deep.RegionHeld3
import Derived.ArgAppend
import Derived.Deep.RegionLaw
import Derived.Lib.AppendIntMem
import Derived.StillTailTactics
import Derived.Maps.RangeWalk
import Derived.Shelf.Small.Bits
import Derived.Shelf.Small.Wraps
import Derived.Shelf.Strconv.Itoa0
import Derived.Test.YtophhiejggnaeaaProg
import Derived.Test.YtophhiejggnaeaaPa5
namespace Go.Proofs.Ytophhiejggnaeaa.MulPlain
open Go.Proofs.Ytophhiejggnaeaa.SpanPlain Go.Proofs.Ytophhiejggnaeaa.StepPlain Go.Proofs.Ytophhiejggnaeaa.GapPlain Go.Proofs.Ytophhiejggnaeaa.JobPlain Go.Proofs.Ytophhiejggnaeaa.OrdPlain Go.Proofs.Ytophhiejggnaeaa.ApiPlain Go.Proofs.Ytophhiejggnaeaa.ShaPlain Go.Proofs.Ytophhiejggnaeaa.SlaPlain Go.Proofs.Ytophhiejggnaeaa.TogPlain Go.Proofs.Ytophhiejggnaeaa.PasPlain Go.Proofs.Ytophhiejggnaeaa.QuePlain
/-- A class's jobs up to its head: what is started and promised, the head's Id. -/
def upL (now : Int) (pr : Bool) : Pas → List Jb → Pas × Int
  | x, [] => (x, 0)
  | x, j :: l =>
    if fitF x.s now j = now then upL now pr (startP now x j) l
    else if now < fitF x.s now j then (if pr = true then promP x (fitF x.s now j) j else x, j.id)
    else upL now pr x l
section
variable {cls : List Cl} {now : Int} {c : Nat} {pr : Bool}
theorem in_up (hc : c < cls.length) : ∀ (l : List Jb) (x : Pas),
    (mulIn cls now c pr x false 0 l).1 = (upL now pr x (l.filter fun j => decide (ofE cls j.width j.est = c))).1 ∧
    (mulIn cls now c pr x false 0 l).2.1 = (upL now pr x (l.filter fun j => decide (ofE cls j.width j.est = c))).2
  | [], _ => ⟨rfl, rfl⟩
  | j :: l, x => by
    by_cases hj : ofE cls j.width j.est = c
    · rw [List.filter_cons_of_pos (by simpa using hj)]
      unfold mulIn upL
      rw [if_neg (by simp [hj])]
      by_cases h1 : fitF x.s now j = now
      · rw [if_pos h1, if_pos h1]
        exact in_up hc l _
      · rw [if_neg h1, if_neg h1]
        by_cases h2 : now < fitF x.s now j
        · rw [if_pos ⟨h2, hc⟩, if_pos h2]
          cases pr with
          | true => rw [if_pos rfl, if_pos rfl, mul_stop]; exact ⟨rfl, rfl⟩
          | false => rw [if_neg (by simp), if_neg (by simp), mul_stop]; exact ⟨rfl, rfl⟩
        · rw [if_neg (fun h => h2 h.1), if_neg h2]
          exact in_up hc l x
    · rw [List.filter_cons_of_neg (by simpa using hj)]
      unfold mulIn
      rw [if_pos (.inr ⟨hc, hj⟩)]
      exact in_up hc l x
/-- What is left of another class is what there was. -/
theorem in_other (hc : c < cls.length) {d : Nat} (hd : d ≠ c) : ∀ (l : List Jb) (x : Pas) (stop : Bool) (h : Int),
    (mulIn cls now c pr x stop h l).2.2.filter (fun j => decide (ofE cls j.width j.est = d)) = l.filter (fun j => decide (ofE cls j.width j.est = d))
  | [], _, _, _ => rfl
  | j :: l, x, stop, h => by
    have keep : ∀ m : List Jb, m.filter (fun j => decide (ofE cls j.width j.est = d)) = l.filter (fun j => decide (ofE cls j.width j.est = d)) → (j :: m).filter (fun j => decide (ofE cls j.width j.est = d)) = (j :: l).filter (fun j => decide (ofE cls j.width j.est = d)) := fun m hm => by
      rw [List.filter_cons, List.filter_cons, hm]
    unfold mulIn
    split
    · exact keep _ (in_other hc hd l x stop h)
    · rename_i hs
      have hj : ofE cls j.width j.est = c := by
        by_cases hj : ofE cls j.width j.est = c
        · exact hj
        · exact absurd (.inr ⟨hc, hj⟩) hs
      have hj2 : ¬ ofE cls j.width j.est = d := by rw [hj]; omega
      split
      · rw [List.filter_cons_of_neg (by simpa using hj2)]; exact in_other hc hd l _ stop h
      · split
        · split
          · rw [List.filter_cons_of_neg (by simpa using hj2)]; exact in_other hc hd l _ true j.id
          · exact keep _ (in_other hc hd l x true j.id)
        · exact keep _ (in_other hc hd l x stop h)
end
theorem to_other {cls : List Cl} {over : List Bool} {now : Int} {s : List Sp} {js : List Jb} : ∀ c, c ≤ cls.length → ∀ d, c ≤ d → (mulTo cls over now s js c).2.2.filter (fun j => decide (ofE cls j.width j.est = d)) = js.filter (fun j => decide (ofE cls j.width j.est = d))
  | 0, _, _, _ => rfl
  | c + 1, hc, d, hd => by
    unfold mulTo
    dsimp only
    rw [in_other (by omega) (by omega)]
    exact to_other c (by omega) d (by omega)
theorem pick_eq (cls : List Cl) (c : Int) (js : List Jb) : pickJ cls c js = js.filter fun j => decide (ofE cls j.width j.est = c) := by
  unfold pickJ
  refine List.filter_congr fun j _ => ?_
  rw [ofE_eq]
/-- A class more. -/
theorem to_next {cls : List Cl} {over : List Bool} {now : Int} {s : List Sp} {js : List Jb} {c : Nat} (hc : c < cls.length) :
    (mulTo cls over now s js (c + 1)).1 = (upL now (mayPr over c) (mulTo cls over now s js c).1 (pickJ cls c js)).1 ∧
    (mulTo cls over now s js (c + 1)).2.1 = (mulTo cls over now s js c).2.1 ++ [(upL now (mayPr over c) (mulTo cls over now s js c).1 (pickJ cls c js)).2] := by
  have h1 := to_other (cls := cls) (over := over) (now := now) (s := s) (js := js) c (by omega) c (Nat.le_refl _)
  have h2 := in_up (pr := mayPr over c) (now := now) hc (mulTo cls over now s js c).2.2 (mulTo cls over now s js c).1
  rw [h1, ← pick_eq] at h2
  refine ⟨h2.1, ?_⟩
  rw [← h2.2]
  rfl
/-- A pass that goes on is what it was, and a pass of its own. -/
structure Beside (x y z : Pas) : Prop where
  s : z.s = y.s
  R : z.R = x.R ++ y.R
  Q : z.Q = x.Q ++ y.Q
theorem up_beside {now : Int} {pr : Bool} {x : Pas} : ∀ (l : List Jb) (y z : Pas), Beside x y z → Beside x (upL now pr y l).1 (upL now pr z l).1 ∧ (upL now pr y l).2 = (upL now pr z l).2
  | [], _, _, h => ⟨h, rfl⟩
  | j :: l, y, z, h => by
    unfold upL
    rw [h.s]
    by_cases h1 : fitF y.s now j = now
    · rw [if_pos h1, if_pos h1]
      exact up_beside l _ _ ⟨by show layL z.s now j = layL y.s now j; rw [h.s], by show z.R ++ [j] = x.R ++ (y.R ++ [j]); rw [h.R, List.append_assoc], h.Q⟩
    · rw [if_neg h1, if_neg h1]
      by_cases h2 : now < fitF y.s now j
      · rw [if_pos h2, if_pos h2]
        refine ⟨?_, rfl⟩
        cases pr with
        | false => exact h
        | true =>
          refine ⟨by show layL z.s _ j = layL y.s _ j; rw [h.s], h.R, ?_⟩
          show z.Q ++ [_] = x.Q ++ (y.Q ++ [_])
          rw [h.Q, List.append_assoc]
      · rw [if_neg h2, if_neg h2]
        exact up_beside l y z h
theorem up_new {now : Int} {pr : Bool} (x : Pas) (l : List Jb) : Beside x (upL now pr (Pas.new x.s) l).1 (upL now pr x l).1 ∧ (upL now pr (Pas.new x.s) l).2 = (upL now pr x l).2 :=
  up_beside l _ _ ⟨rfl, by simp [Pas.new], by simp [Pas.new]⟩
/-- The head's Id is told by the promise, if one is asked for. -/
def headI : List (Int × Jb) → Int
  | [] => 0
  | q :: _ => q.2.id
theorem up_head {now : Int} : ∀ (l : List Jb) (x : Pas), x.Q = [] → (upL now true x l).2 = headI (upL now true x l).1.Q ∧ (upL now true x l).1.Q.length ≤ 1
  | [], x, h => by
    unfold upL
    rw [h]
    exact ⟨rfl, by simp⟩
  | j :: l, x, h => by
    unfold upL
    split
    · exact up_head l _ h
    · split
      · rw [if_pos rfl]
        refine ⟨?_, ?_⟩
        · show j.id = headI (x.Q ++ [_]); rw [h]; rfl
        · show (x.Q ++ [_]).length ≤ 1; rw [h]; simp
      · exact up_head l x h
theorem up_len {now : Int} {pr : Bool} : ∀ (l : List Jb) (x : Pas), (upL now pr x l).1.R.length + (upL now pr x l).1.Q.length ≤ x.R.length + x.Q.length + l.length
  | [], x => by show x.R.length + x.Q.length ≤ _; simp
  | j :: l, x => by
    unfold upL
    split
    · have := up_len (now := now) (pr := pr) l (startP now x j)
      simp [startP] at this ⊢
      omega
    · split
      · cases pr with
        | true => rw [if_pos rfl]; simp [promP]; omega
        | false => rw [if_neg (by simp)]; simp only [List.length_cons]; omega
      · have := up_len (now := now) (pr := pr) l x
        simp
        omega
def idsP (x : Pas) : List Int := x.R.map (·.id) ++ x.Q.map (·.2.id)
def waitJ (ids : List Int) (js : List Jb) : List Jb := js.filter fun j => !ids.contains j.id
theorem ids_start (now : Int) (x : Pas) (j : Jb) (i : Int) : i ∈ idsP (startP now x j) ↔ i ∈ idsP x ∨ i = j.id := by
  simp [idsP, startP]
  constructor
  · rintro (h | h | h)
    · exact .inl (.inl h)
    · exact .inr h
    · exact .inl (.inr h)
  · rintro ((h | h) | h)
    · exact .inl h
    · exact .inr (.inr h)
    · exact .inr (.inl h)
theorem ids_prom (x : Pas) (a : Int) (j : Jb) (i : Int) : i ∈ idsP (promP x a j) ↔ i ∈ idsP x ∨ i = j.id := by
  simp [idsP, promP]
  constructor
  · rintro (h | h | h)
    · exact .inl (.inl h)
    · exact .inl (.inr h)
    · exact .inr h
  · rintro ((h | h) | h)
    · exact .inl h
    · exact .inr (.inl h)
    · exact .inr (.inr h)
/-- What a class leaves is what is not done with. -/
theorem in_wait {cls : List Cl} {now : Int} {c : Nat} {pr : Bool} : ∀ (l : List Jb) (x : Pas) (stop : Bool) (h : Int), (l.map (·.id)).Nodup → (∀ j ∈ l, j.id ∉ idsP x) →
    (mulIn cls now c pr x stop h l).2.2 = waitJ (idsP (mulIn cls now c pr x stop h l).1) l ∧ (∀ i ∈ idsP x, i ∈ idsP (mulIn cls now c pr x stop h l).1) ∧ (∀ i ∈ idsP (mulIn cls now c pr x stop h l).1, i ∈ idsP x ∨ i ∈ l.map (·.id))
  | [], _, _, _, _, _ => ⟨rfl, fun _ h => h, fun _ h => .inl h⟩
  | j :: l, x, stop, h, hn, hx => by
    rw [List.map_cons, List.nodup_cons] at hn
    have hj := hx j (List.mem_cons_self ..)
    have hl : ∀ k ∈ l, k.id ∉ idsP x := fun k hk => hx k (List.mem_cons_of_mem _ hk)
    have skip : ∀ (p : Pas × Int × List Jb), (p.2.2 = waitJ (idsP p.1) l ∧ (∀ i ∈ idsP x, i ∈ idsP p.1) ∧ (∀ i ∈ idsP p.1, i ∈ idsP x ∨ i ∈ l.map (·.id))) →
        j :: p.2.2 = waitJ (idsP p.1) (j :: l) ∧ (∀ i ∈ idsP x, i ∈ idsP p.1) ∧ (∀ i ∈ idsP p.1, i ∈ idsP x ∨ i ∈ (j :: l).map (·.id)) := fun p ⟨h1, h2, h3⟩ => by
      have hq : j.id ∉ idsP p.1 := fun q => (h3 _ q).elim hj hn.1
      refine ⟨?_, h2, fun i hi => (h3 i hi).imp id fun q => by rw [List.map_cons]; exact List.mem_cons_of_mem _ q⟩
      unfold waitJ at h1 ⊢
      rw [List.filter_cons_of_pos (by simpa using hq), h1]
    have took : ∀ (y : Pas) (p : Pas × Int × List Jb), (∀ i, i ∈ idsP y ↔ i ∈ idsP x ∨ i = j.id) → (p.2.2 = waitJ (idsP p.1) l ∧ (∀ i ∈ idsP y, i ∈ idsP p.1) ∧ (∀ i ∈ idsP p.1, i ∈ idsP y ∨ i ∈ l.map (·.id))) →
        p.2.2 = waitJ (idsP p.1) (j :: l) ∧ (∀ i ∈ idsP x, i ∈ idsP p.1) ∧ (∀ i ∈ idsP p.1, i ∈ idsP x ∨ i ∈ (j :: l).map (·.id)) := fun y p hy ⟨h1, h2, h3⟩ => by
      have hq : j.id ∈ idsP p.1 := h2 _ ((hy _).2 (.inr rfl))
      refine ⟨?_, fun i hi => h2 i ((hy i).2 (.inl hi)), fun i hi => ?_⟩
      · unfold waitJ at h1 ⊢
        rw [List.filter_cons_of_neg (by simpa using hq), h1]
      · rw [List.map_cons]
        rcases h3 i hi with q | q
        · rcases (hy i).1 q with q | q
          · exact .inl q
          · subst q; exact .inr (List.mem_cons_self ..)
        · exact .inr (List.mem_cons_of_mem _ q)
    have away : ∀ (y : Pas), (∀ i, i ∈ idsP y ↔ i ∈ idsP x ∨ i = j.id) → ∀ k ∈ l, k.id ∉ idsP y := fun y hy k hk q => by
      rcases (hy _).1 q with q | q
      · exact hl k hk q
      · exact hn.1 (q ▸ List.mem_map_of_mem hk)
    unfold mulIn
    split
    · exact skip _ (in_wait l x stop h hn.2 hl)
    · split
      · exact took _ _ (ids_start now x j) (in_wait l _ stop h hn.2 (away _ (ids_start now x j)))
      · split
        · split
          · exact took _ _ (ids_prom x _ j) (in_wait l _ true j.id hn.2 (away _ (ids_prom x _ j)))
          · exact skip _ (in_wait l x true j.id hn.2 hl)
        · exact skip _ (in_wait l x stop h hn.2 hl)
theorem wait_map (ids : List Int) (js : List Jb) : ((waitJ ids js).map (·.id)).Sublist (js.map (·.id)) := List.Sublist.map _ List.filter_sublist
theorem to_wait {cls : List Cl} {over : List Bool} {now : Int} {s : List Sp} {js : List Jb} (hn : (js.map (·.id)).Nodup) : ∀ c, (mulTo cls over now s js c).2.2 = waitJ (idsP (mulTo cls over now s js c).1) js
  | 0 => by
    show js = waitJ [] js
    unfold waitJ
    exact (List.filter_eq_self.2 (by simp)).symm
  | c + 1 => by
    have h := to_wait (cls := cls) (over := over) (now := now) (s := s) hn c
    have h2 := in_wait (cls := cls) (now := now) (c := c) (pr := mayPr over c) (mulTo cls over now s js c).2.2 (mulTo cls over now s js c).1 false 0
      (by rw [h]; exact (wait_map _ js).nodup hn) (fun j hj => by rw [h] at hj; unfold waitJ at hj; have := (List.mem_filter.1 hj).2; simpa using this)
    unfold mulTo
    dsimp only
    obtain ⟨e1, e2, _⟩ := h2
    generalize hB : idsP (mulIn cls now c (mayPr over c) (mulTo cls over now s js c).1 false 0 (mulTo cls over now s js c).2.2).1 = B at e1 e2
    clear hB
    rw [e1, h]
    unfold waitJ
    rw [List.filter_filter]
    refine List.filter_congr fun j _ => ?_
    have h3 := e2 j.id
    generalize idsP (mulTo cls over now s js c).1 = A at *
    cases q : A.contains j.id with
    | false => simp
    | true =>
      have := h3 (by simpa using q)
      simpa using this
/-- The last round, as EASY without a head does it. -/
theorem last_beside {cls : List Cl} {now : Int} {x : Pas} : ∀ (l : List Jb) (y z : Pas) (h : Int), Beside x y z → y.Q = [] → Beside x (l.foldl (easyOne now false) y) (mulIn cls now cls.length false z false h l).1
  | [], _, _, _, hb, _ => hb
  | j :: l, y, z, h, hb, hy => by
    unfold mulIn
    rw [if_neg (by simp), List.foldl_cons]
    unfold easyOne
    rw [hb.s]
    by_cases h1 : fitF y.s now j = now
    · rw [if_pos h1, if_pos h1]
      exact last_beside l _ _ h ⟨by show layL z.s now j = layL y.s now j; rw [hb.s], by show z.R ++ [j] = x.R ++ (y.R ++ [j]); rw [hb.R, List.append_assoc], hb.Q⟩ hy
    · rw [if_neg h1, if_neg h1, if_neg (by simp), if_neg (by simp)]
      exact last_beside l y z h hb hy
/-- All classes, then the rest. -/
theorem mul_way {cls : List Cl} {over : List Bool} {now : Int} {s : List Sp} {js : List Jb} (hn : (js.map (·.id)).Nodup) :
    Beside (mulTo cls over now s js cls.length).1 (easyP (mulTo cls over now s js cls.length).1.s now (waitJ (idsP (mulTo cls over now s js cls.length).1) js) false) (mulP cls over s now js) := by
  unfold mulP
  rw [to_wait hn]
  exact last_beside _ _ _ 0 ⟨rfl, by simp [Pas.new], by simp [Pas.new]⟩ rfl
theorem easy_noQ {now : Int} : ∀ (l : List Jb) (y : Pas), (l.foldl (easyOne now false) y).Q = y.Q
  | [], _ => rfl
  | j :: l, y => by
    rw [List.foldl_cons, easy_noQ l]
    unfold easyOne
    split
    · rfl
    · rw [if_neg (by simp)]
end Go.Proofs.Ytophhiejggnaeaa.MulPlain
namespace Go.Proofs.Ytophhiejggnaeaa.IdSet
open Go.RowKit Go.Proofs.Ytophhiejggnaeaa.Mem
theorem intLaw : Maps.Keyed Try.prog 3 := Maps.int_keyed Try.underlying3
theorem unitZero (w : World) : (zeroValue 89).run Try.prog w = .ok (.agg #[]) w := by kernel_rfl
theorem mapType : Try.prog.underlying 88 = some (.map 3 89) := Try.underlying88
/-- A map's datum: its elements are told as they are. -/
abbrev MapD := DataW Value
def heldR (v : Value) : Option (MapD × List MemPlace) := some (.held v, [])
abbrev MapAt (w : World) (b n : Nat) (D : MapD) : Prop := w.ownsMap Try.prog 3 heldR b n D
abbrev ik (x : Int) : Lit := .int .i64 x
theorem key_lit (x : Int) : WideAt.IsKeyLit (ik x) := by unfold WideAt.IsKeyLit ik; simp
def I64 (x : Int) : Prop := -9223372036854775808 ≤ x ∧ x ≤ 9223372036854775807
/-- A set of these numbers. -/
structure SetD (D : MapD) (l : List Int) : Prop where
  tidy : Maps.Tidy D
  yes : ∀ i ∈ l, ∀ z, D.atKey (ik i) z = .held (.agg #[])
  no : ∀ i, i ∉ l → Maps.has D (ik i) = false
  wf : ∀ i ∈ l, I64 i
theorem SetD.has {D : MapD} {l : List Int} (h : SetD D l) {i : Int} (hj : i ∈ l) : Maps.has D (ik i) = true := Maps.has_true_of_atKey (h.yes i hj)
theorem SetD.empty : SetD (.map []) [] := ⟨Maps.tidy_empty, fun _ h => by simp at h, fun _ _ => rfl, fun _ h => by simp at h⟩
theorem SetD.put {D : MapD} {l l' : List Int} (h : SetD D l) (i : Int) (hi : I64 i) (hm : ∀ x, x ∈ l' ↔ x = i ∨ x ∈ l) : SetD (D.put (ik i) (.held (.agg #[]))) l' := by
  refine ⟨h.tidy.put (key_lit _) _, fun x hx z => ?_, fun x hx => ?_, fun x hx => ?_⟩
  · by_cases e : x = i
    · subst e
      exact Maps.atKey_put_same h.tidy.isMap (key_lit _) _ _
    · rw [Maps.atKey_put_other (fun q => e (by injection q))]
      exact h.yes x (((hm x).1 hx).resolve_left e) z
  · have h1 : x ≠ i := fun e => hx ((hm x).2 (.inl e))
    rw [Maps.has_put_other (fun e => h1 (by injection e))]
    exact h.no x fun e => hx ((hm x).2 (.inr e))
  · rcases (hm x).1 hx with rfl | e
    · exact hi
    · exact h.wf x e
theorem SetD.grow {D : MapD} {l : List Int} (h : SetD D l) (i : Int) : Maps.size (D.put (ik i) (.held (.agg #[]))) = if i ∈ l then Maps.size D else Maps.size D + 1 := by
  rw [Maps.size_put h.tidy]
  by_cases hi : i ∈ l
  · rw [if_pos hi, if_pos (h.has hi)]
  · rw [if_neg hi, if_neg (by rw [h.no i hi]; decide)]
theorem wf_id {x : Int} (h : I64 x) : (Lit.int .i64 x).wf = true := WalkArith.wf_i64 h
theorem map_block {w w' : World} {b n : Nat} {D : MapD} (h : MapAt w b n D) (e : w'.heap[b]? = w.heap[b]?) : MapAt w' b n D := by
  obtain ⟨es, clock, hb, F, hs, hD⟩ := h
  exact ⟨es, clock, e.trans hb, F, hs, hD⟩
set_option maxRecDepth 100000 in
theorem look_id {w : World} {b n : Nat} {D : MapD} {l : List Int} (h : MapAt w b n D) (M : SetD D l) (id : Int) :
    (Instr.lookup 88 (.map (some b)) (.int .i64 id) true).run Try.prog w = .ok (.tuple #[.agg #[], .bool (l.contains id)]) w := by
  obtain ⟨es, clock, hb, F, hs, rfl⟩ := h
  by_cases hf : id ∈ l
  · have hy := M.yes _ hf
    rcases Maps.fit_look true intLaw mapType (unitZero w) hb F (Maps.keyOf_int_mk Try.underlying3 (wf_id (M.wf _ hf))) with ⟨_, _, h5⟩ | ⟨e0, y2, _, _, h6, h7, h5, _⟩
    · have := (h5 .nil).symm.trans (hy .nil)
      cases this
    · have h8 := (h5 .nil).symm.trans (hy .nil)
      injection h7 with h7
      rw [← h7] at h8
      injection h8 with h8
      rw [h6, h8]
      simp [hf]
  · have hn := M.no id hf
    have hks : ∀ x ∈ es.toList, MapKept.IsKey (.int .i64) x.key := fun x hx => by
      obtain ⟨y, hy⟩ := F.reads x hx
      obtain ⟨q, e, _⟩ := Maps.keyOf_int_inv Try.underlying3 (WideElems.rd_key hy)
      rw [e]
      exact rfl
    have hc : l.contains id = false := by simpa using hf
    rw [hc]
    rcases MapKept.findNow_spec (d := .int .i64) (k := .int .i64 id) rfl es.toList 0 hks with ⟨h1, _⟩ | ⟨j, e0, h1, h2, h3⟩
    · have h4 := MapKept.run_findKey (P := Try.prog) (w := w) Try.underlying3 h1
      have h5 : ∀ em, (Instr.checkKey em 10000 3 (.int .i64 id)).run Try.prog w = .ok () w := fun em => MapKept.run_checkKey (d := .int .i64) (k := .int .i64 id) Try.underlying3 rfl em 9999
      simp [Instr.lookup, run_underlying mapType, MapKept.run_getObj_map hb, h4, h5, unitZero, Result.andThen]
    · exfalso
      obtain ⟨y, hy⟩ := F.reads e0 (List.mem_of_getElem? h2)
      have h4 := WideElems.rd_key hy
      rw [h3] at h4
      rcases Maps.fit_look false intLaw mapType (unitZero w) hb F h4 with ⟨_, h5, _⟩ | ⟨_, y2, _, _, _, _, h5, _⟩
      · exact h5 e0 (List.mem_of_getElem? h2) h3
      · obtain ⟨q, e, e2, _⟩ := Maps.keyOf_int_inv Try.underlying3 h4
        injection e with _ e
        subst e
        rw [e2] at h5
        rw [Maps.has_true_of_atKey h5] at hn
        cases hn
theorem store_id {w : World} {b n : Nat} {D : MapD} (h : MapAt w b n D) (hn : n < maxLen) {i : Int} (hi : I64 i) :
    ∃ w', (Instr.mapUpdate 88 (.map (some b)) (.int .i64 i) (.agg #[])).run Try.prog w = .ok () w' ∧ MapAt w' b (n + 1) (D.put (ik i) (.held (.agg #[]))) ∧ w.grownBy w' (some b) :=
  h.update intLaw mapType hn (Maps.keyOf_int_mk Try.underlying3 (wf_id hi)) rfl
/-- A set in memory, at a block of its own. -/
structure SetAt (w : World) (b n : Nat) (l : List Int) (D : MapD) : Prop where
  map : MapAt w b n D
  is : SetD D l
  lt : b < w.heap.size
theorem SetAt.below {w w' : World} {b n : Nat} {l : List Int} {D : MapD} (h : SetAt w b n l D) (hb : Below w.heap.size w w') : SetAt w' b n l D :=
  ⟨map_block h.map (hb.block _ h.lt), h.is, Nat.lt_of_lt_of_le h.lt hb.size⟩
theorem SetAt.made (w : World) : SetAt (w.alloc (.map #[] 0)) w.heap.size 0 [] (.map []) := ⟨World.ownsMap_made (H := Value) w Try.prog 3 heldR, SetD.empty, by simp⟩
theorem SetAt.put {w : World} {b n : Nat} {l : List Int} {D : MapD} (h : SetAt w b n l D) (hn : n < maxLen) (i : Int) (hi : I64 i) :
    ∃ w', (Instr.mapUpdate 88 (.map (some b)) (.int .i64 i) (.agg #[])).run Try.prog w = .ok () w' ∧ SetAt w' b (n + 1) (l ++ [i]) (D.put (ik i) (.held (.agg #[]))) ∧ w.grownBy w' (some b) := by
  obtain ⟨w', h1, h2, h3⟩ := store_id h.map hn hi
  exact ⟨w', h1, ⟨h2, h.is.put i hi (fun x => by simp [or_comm]), Nat.lt_of_lt_of_le h.lt h3.size⟩, h3⟩
theorem SetAt.len {w : World} {b n : Nat} {l : List Int} {D : MapD} (h : SetAt w b n l D) (ty : TypeId) : (Builtin.len_ #[88] ty #[.map (some b)]).run Try.prog w = .ok (.int .i64 (Maps.size D)) w := h.map.len mapType ty
theorem below_map {w w' : World} {g b : Nat} (hb : g ≤ b) (hl : b < w.heap.size) (h : w.grownBy w' (some b)) : Below g w w' := by
  refine ⟨h.os, h.tape, h.output, h.size, fun i hi => ?_⟩
  exact h.block i (by omega) (by intro e; injection e with e; omega)
end Go.Proofs.Ytophhiejggnaeaa.IdSet
namespace Go.Proofs.Ytophhiejggnaeaa.PasWalk
open Go.RowKit Go.Proofs.Ytophhiejggnaeaa.SpanPlain Go.Proofs.Ytophhiejggnaeaa.StepPlain Go.Proofs.Ytophhiejggnaeaa.JobPlain Go.Proofs.Ytophhiejggnaeaa.OrdPlain Go.Proofs.Ytophhiejggnaeaa.ApiPlain Go.Proofs.Ytophhiejggnaeaa.QuePlain Go.Proofs.Ytophhiejggnaeaa.PasPlain Go.Proofs.Ytophhiejggnaeaa.MulPlain Go.Proofs.Ytophhiejggnaeaa.Mem Go.Proofs.Ytophhiejggnaeaa.JobMem Go.Proofs.Ytophhiejggnaeaa.OrdMem Go.Proofs.Ytophhiejggnaeaa.ApiMem Go.Proofs.Ytophhiejggnaeaa.IdSet
open Go.Proofs.Ytophhiejggnaeaa.MulWalk (boolL)
open Go.Proofs.Ytophhiejggnaeaa.OrdTake (unlikeTo unlike_next nthJ find_less)
/-- All Ids are integers of 64 bits. -/
def IdsFit (js : List Jb) : Prop := ∀ j ∈ js, I64 j.id
def BoolB2 (b : Bool) (w : World) (e : Ending) (w' : World) : Prop := e = .returned (.bool b) ∧ Below w.heap.size w w'
def idsOf (js : List Jb) : List Int := js.map (·.id)
theorem ids_next {js : List Jb} {k : Nat} (hk : k < js.length) : idsOf (js.take (k + 1)) = idsOf (js.take k) ++ [js[k].id] := by
  unfold idsOf
  rw [List.take_succ_eq_append_getElem hk, List.map_append]
  rfl
theorem box_below {w0 w : World} (h : Below w0.heap.size w0 w) (o : Obj) : Below w0.heap.size w0 (w.alloc o) := h.alloc h.size o
theorem nodup_snoc {l : List Int} {x : Int} : (l ++ [x]).Nodup ↔ l.Nodup ∧ x ∉ l := by
  rw [List.nodup_append]
  simp
  intro _
  constructor
  · intro h q; exact h x q rfl
  · intro h a ha e; exact h (e ▸ ha)
/-- What is so in each round. -/
structure UnAt (js : List Jb) (w : World) (b k : Nat) (D : MapD) (wr : World) : Prop where
  set : SetAt wr b k (idsOf (js.take k)) D
  bel : Below w.heap.size w wr
  le : Maps.size D ≤ k
  eq : Maps.size D = k ↔ (idsOf (js.take k)).Nodup
theorem UnAt.next {js : List Jb} {w wr W w' : World} {b k : Nat} {D : MapD} (h : UnAt js w b k D wr) (hb : w.heap.size ≤ b) (hk : k < js.length) (hs : SetAt w' b (k + 1) (idsOf (js.take k) ++ [js[k].id]) (D.put (ik js[k].id) (.held (.agg #[])))) (hW : Below w.heap.size w W) (hl : b < W.heap.size) (hg : W.grownBy w' (some b)) : UnAt js w b (k + 1) (D.put (ik js[k].id) (.held (.agg #[]))) w' := by
  have h1 := h.set.is.grow js[k].id
  refine ⟨by rw [ids_next hk]; exact hs, hW.trans (below_map hb hl hg), ?_, ?_⟩
  · have := h.le
    rw [h1]; split <;> omega
  · have h2 := h.le
    have h3 := h.eq
    rw [h1, ids_next hk, nodup_snoc, ← h3]
    split
    · rename_i hq
      constructor
      · intro e; omega
      · rintro ⟨_, e⟩; exact absurd hq e
    · rename_i hq
      constructor
      · intro e; exact ⟨by omega, hq⟩
      · rintro ⟨e, _⟩; omega
theorem find_iff (l : List Jb) (i : Int) : findL l i < 0 ↔ i ∉ idsOf l := by
  unfold idsOf
  constructor
  · intro h hq
    obtain ⟨j, hj, e⟩ := List.mem_map.1 hq
    exact find_less h j hj e
  · intro h
    rw [find_none fun k hk => by simpa using fun e => h (List.mem_map.2 ⟨l[k], List.getElem_mem hk, e⟩)]
    decide
theorem unlike_iff (js : List Jb) : unlikeTo js js.length = true ↔ (idsOf js).Nodup := by
  have h : ∀ k, k ≤ js.length → (unlikeTo js k = true ↔ (idsOf (js.take k)).Nodup) := by
    intro k
    induction k with
    | zero => intro _; simp [unlikeTo, idsOf]
    | succ k ih =>
      intro hk
      rw [unlike_next, ids_next (by omega), nodup_snoc, ← ih (by omega), Bool.and_eq_true, decide_eq_true_iff]
      have e : nthJ js k = js[k] := Go.Proofs.Ytophhiejggnaeaa.OrdTake.nthJ_at (by omega)
      rw [e, find_iff]
  have := h js.length (Nat.le_refl _)
  rwa [List.take_length] at this
set_option maxRecDepth 100000 in
set_option maxHeartbeats 1200000 in
theorem unlike_m (js : List Jb) (u : Value) (w : World) (hu : JobsIs js w u) (hi : IdsFit js) (hj : js.length ≤ 100) : Calls Try.prog 38 #[u] w (BoolB2 (unlikeTo js js.length) w) := by
  obtain ⟨B, d, rfl, _, hB⟩ := hu.open_
  have HJB := Lib.hid hB
  have HI := Lib.hid (fun k (hk : k < js.length) => hi js[k] (List.getElem_mem hk))
  have hmm := @run_makeMap Try.prog
  have HS0 := Lib.hid (SetAt.made w)
  have HB0 := Lib.hid (box_below (Below.refl _ w) (.map #[] 0))
  have HL0 : Hid (UnAt js w w.heap.size 0 (.map []) (w.alloc (.map #[] 0))) := ⟨HS0.out, HB0.out, Nat.le_refl _, by simp [Maps.size, idsOf]⟩
  clear hu hB HS0 HB0 hi
  go_enter Try.func38, Try.ntmps38
  go_upto_region 2 with fail
  generalize w.alloc (.map #[] 0) = W1 at *
  clear hmm
  go_wp2_with fail
  go_loopw [9] (fun i wr => ∃ (k : Nat) (D : MapD), i = .int .i64 k ∧ k ≤ js.length ∧ Hid (UnAt js w w.heap.size k D wr)) (fun i _ => js.length - (intOf i).toNat)
  case atStart => exact ⟨0, _, rfl, Nat.zero_le _, HL0.out⟩
  case round =>
    obtain ⟨k, D, rfl, hk, HL⟩ := hrel
    by_cases hlt : k < js.length
    · obtain ⟨bd, rfl, hat⟩ := HJB.out k hlt
      obtain ⟨y, y0, y1, y2, y3, y4, y5, y6, y7, y8⟩ := hat.below HL.out.bel
      have hlt2 : (k : Int) < (js.length : Int) := by omega
      have i0 : (0 : Int) ≤ (k : Int) := Int.natCast_nonneg _
      have HNX := Lib.hid (fun W w' hs hW hl hg => HL.out.next (W := W) (w' := w') (Nat.le_refl _) hlt hs hW hl hg)
      have HIK := Lib.hid (HI.out k hlt)
      obtain ⟨j, hj2⟩ : ∃ j, j = js[k] := ⟨_, rfl⟩
      rw [← hj2] at y0 y1 y2 y3 y4 y5 y6 y7 y8 HNX HIK
      have HX := Lib.hid (JobBox.new wr j 45)
      have HB1 := Lib.hid (box_below HL.out.bel (.cells #[.int .i64 j.id, .string j.user, .int .i64 j.width, .int .i64 j.est, .int .i64 j.prio, .int .i64 j.sub, .int .i64 j.state, .int .i64 j.start, .int .i64 j.fin] 45))
      have HS1 := Lib.hid (HL.out.set.below (below_box wr (.cells #[.int .i64 j.id, .string j.user, .int .i64 j.width, .int .i64 j.est, .int .i64 j.prio, .int .i64 j.sub, .int .i64 j.state, .int .i64 j.start, .int .i64 j.fin] 45)))
      have hkl : k ≤ 100 := by omega
      clear hj2 hat HL HL0
      go_upto_region 5 with fail
      clear y y0 y1 y2 y3 y4 y5 y6 y7 y8
      generalize wr.alloc (.cells #[.int .i64 j.id, .string j.user, .int .i64 j.width, .int .i64 j.est, .int .i64 j.prio, .int .i64 j.sub, .int .i64 j.state, .int .i64 j.start, .int .i64 j.fin] 45) = W2 at *
      obtain ⟨y, y0, y1, y2, y3, y4, y5, y6, y7, y8, _, _, _, _, _, _, _, _, _⟩ := HX.out
      obtain ⟨w8, q8, hs8, hg8⟩ := HS1.out.put (by unfold maxLen; omega) j.id HIK.out
      have HN8 := Lib.hid (HNX.out _ _ hs8 HB1.out HS1.out.lt hg8)
      clear hs8 hg8 HS1 HX HB1 HNX HIK
      go_wp2_with fail
      exact ⟨⟨k + 1, _, by go_num, by omega, HN8.out⟩, by simp [intOf] <;> omega⟩
    · obtain rfl : k = js.length := by omega
      have q8 := HL.out.set.len 3
      have HB8 := Lib.hid HL.out.bel
      have HEQ := HL.out.eq
      have hle := HL.out.le
      rw [List.take_length, ← unlike_iff] at HEQ
      generalize hM : Maps.size D = M at *
      have HR : Hid (((M : Int) == (js.length : Int)) = unlikeTo js js.length) := by
        show _ = _
        cases h : unlikeTo js js.length with
        | true => rw [h] at HEQ; have := HEQ.2 rfl; rw [this]; simp
        | false =>
          rw [h] at HEQ
          have : M ≠ js.length := fun e => by cases HEQ.1 e
          simpa using (by omega : ¬ (M : Int) = (js.length : Int))
      clear HEQ hM hle HL
      go_wp2_with fail
      go_ret
      refine ⟨?_, HB8.out⟩
      rw [← HR.out]
      rfl
set_option maxRecDepth 100000 in
theorem isOver_m (ov : List Bool) (n : Nat) (o : Value) (w : World) (ho : boolL.Is ov w o) (hn : n ≤ 1000) : Calls Try.prog 22 #[o, .int .i64 n] w (BoolB2 (ov.getD n false) w) := by
  obtain ⟨A, c, rfl, _, hA⟩ := ho.open_
  have HA := Lib.hid hA
  have i0 : (0 : Int) ≤ (n : Int) := Int.natCast_nonneg _
  clear ho hA
  by_cases h : n < ov.length
  · have hd : ov.getD n false = ov[n] := by simp [List.getD, h]
    rw [hd]
    obtain ⟨a, rfl, hat⟩ := HA.out n h
    have hc : w.cell? (a.add n) = some (.bool ov[n]) := by
      have := hat.c0 _ rfl
      rwa [show n * boolL.k = n from Nat.mul_one n] at this
    have d1 : decide ((n : Int) < (ov.length : Int)) = true := decide_eq_true (by omega)
    have h2 : (n : Int) < (ov.length : Int) := by omega
    clear hat HA hd
    generalize ov[n] = b at *
    go_enter Try.func22, Try.ntmps22
    go_wp2_with fail
    go_ret
    exact ⟨rfl, Below.refl _ _⟩
  · have hd : ov.getD n false = false := by simp [List.getD, h]
    rw [hd]
    have d1 : decide ((n : Int) < (ov.length : Int)) = false := decide_eq_false (by omega)
    have h2 : ¬ (n : Int) < (ov.length : Int) := by omega
    clear HA hd
    go_enter Try.func22, Try.ntmps22
    go_wp2_with fail
    go_ret
    exact ⟨rfl, Below.refl _ _⟩
end Go.Proofs.Ytophhiejggnaeaa.PasWalk
namespace Go.Proofs.Ytophhiejggnaeaa.PasWalk
open Go.RowKit Go.Proofs.Ytophhiejggnaeaa.SpanPlain Go.Proofs.Ytophhiejggnaeaa.StepPlain Go.Proofs.Ytophhiejggnaeaa.JobPlain Go.Proofs.Ytophhiejggnaeaa.OrdPlain Go.Proofs.Ytophhiejggnaeaa.ApiPlain Go.Proofs.Ytophhiejggnaeaa.QuePlain Go.Proofs.Ytophhiejggnaeaa.PasPlain Go.Proofs.Ytophhiejggnaeaa.MulPlain Go.Proofs.Ytophhiejggnaeaa.Mem Go.Proofs.Ytophhiejggnaeaa.JobMem Go.Proofs.Ytophhiejggnaeaa.OrdMem Go.Proofs.Ytophhiejggnaeaa.ApiMem Go.Proofs.Ytophhiejggnaeaa.IdSet
def pidsOf (P : List Prm) : List Int := P.map (·.id)
/-- In the first two loops: the set, and the plan's box. -/
structure SoAt (w : World) (n : Nat) (l : List Int) (D : MapD) (a c : Value) (wr : World) : Prop where
  set : SetAt wr (w.heap.size + 1) n l D
  box : Box2 wr w.heap.size a c
  bel : Below w.heap.size w wr
theorem SoAt.put {w wr w' : World} {n : Nat} {l l' : List Int} {D D' : MapD} {a c : Value} (h : SoAt w n l D a c wr) (hs : SetAt w' (w.heap.size + 1) (n + 1) l' D') (hg : wr.grownBy w' (some (w.heap.size + 1))) : SoAt w (n + 1) l' D' a c w' :=
  ⟨hs, h.box.grown hg (by intro e; injection e with e; omega), h.bel.trans (below_map (Nat.le_succ _) h.set.lt hg)⟩
theorem SoAt.alloc {w wr : World} {n : Nat} {l : List Int} {D : MapD} {a c : Value} (h : SoAt w n l D a c wr) (o : Obj) : SoAt w n l D a c (wr.alloc o) :=
  ⟨h.set.below (below_box wr o), h.box.alloc o, box_below h.bel o⟩
/-- In the third: the set, and who waits. -/
structure StAt (w : World) (n : Nat) (l : List Int) (D : MapD) (m : List Jb) (ov : Value) (wr : World) : Prop where
  set : SetAt wr (w.heap.size + 1) n l D
  row : OwnN 45 9 (w.heap.size + 2) wr ov m.length (jvals m)
  bel : Below w.heap.size w wr
theorem StAt.alloc {w wr : World} {n : Nat} {l : List Int} {D : MapD} {m : List Jb} {ov : Value} (h : StAt w n l D m ov wr) (o : Obj) : StAt w n l D m ov (wr.alloc o) :=
  ⟨h.set.below (below_box wr o), h.row.alloc o, box_below h.bel o⟩
theorem StAt.push {w wr w' : World} {n : Nat} {l : List Int} {D : MapD} {m : List Jb} {ov v' : Value} {j : Jb} (h : StAt w n l D m ov wr) (ho : OwnN 45 9 (w.heap.size + 2) w' v' (m.length + 1) (jvals m ++ jobC j)) (hb : Below (w.heap.size + 2) wr w') : StAt w n l D (m ++ [j]) v' w' :=
  ⟨⟨map_block h.set.map (hb.block _ (by omega)), h.set.is, Nat.lt_of_lt_of_le h.set.lt hb.size⟩, ho.cast (by simp) (by simp [jvals]), h.bel.trans (hb.mono (by omega))⟩
def WaitSays (ids : List Int) (js : List Jb) (w : World) (e : Ending) (w' : World) : Prop := ∃ v, e = .returned v ∧ JobsIs (waitJ ids js) w' v ∧ Below w.heap.size w w'
theorem wait_next {ids : List Int} {js : List Jb} {k : Nat} (hk : k < js.length) : waitJ ids (js.take (k + 1)) = waitJ ids (js.take k) ++ if ids.contains js[k].id = true then [] else [js[k]] := by
  unfold waitJ
  rw [List.take_succ_eq_append_getElem hk, List.filter_append]
  cases h : ids.contains js[k].id with
  | true => rw [List.filter_cons_of_neg (by simpa using h)]; rfl
  | false => rw [List.filter_cons_of_pos (by simpa using h)]; rfl
theorem wait_le (ids : List Int) (js : List Jb) : (waitJ ids js).length ≤ js.length := List.length_filter_le _ _
theorem jobs_of_own2 {base n : Nat} {w : World} {v : Value} {l : List Jb} {e : TypeId} (h : OwnN e 9 base w v n (jvals l)) (hn : n = l.length) : JobsIs l w v := by
  rcases h.form with ⟨h1, h2, _⟩ | ⟨g, c, hv, _, _, hc, _, hr, _, _⟩
  · refine .inl ⟨h1, ?_⟩
    cases l with
    | nil => rfl
    | cons a l => simp at hn; omega
  · subst hn
    exact .inr ⟨_, c, hv, hr, hc⟩
theorem take_snoc {α : Type} {l : List α} {k : Nat} (hk : k < l.length) : l.take (k + 1) = l.take k ++ [l[k]] := List.take_succ_eq_append_getElem hk
set_option maxRecDepth 100000 in
set_option maxHeartbeats 1200000 in
theorem wait_m (js : List Jb) (st : List Int) (P : List Prm) (u a b : Value) (w : World) (hu : JobsIs js w u) (ha : IntsAt st w a) (hb : prmL.Is P w b) (hi : ∀ i ∈ st, I64 i) (hp : ∀ i ∈ pidsOf P, I64 i) (hj : js.length ≤ 200) (hst : st.length ≤ 1000) (hP : P.length ≤ 1000) :
    Calls Try.prog 23 #[u, .agg #[a, b]] w (WaitSays (st ++ pidsOf P) js w) := by
  obtain ⟨B, d, rfl, _, hB⟩ := hu.open_
  have HJB := Lib.hid hB
  have hmm := @run_makeMap Try.prog
  obtain ⟨A2, c2, rfl, _, hA2⟩ := ha
  have HA2 := Lib.hid hA2
  obtain ⟨A3, c3, rfl, _, hA3⟩ := prms_open hb
  have HA3 := Lib.hid hA3
  have HI := Lib.hid hi
  have HP := Lib.hid hp
  have HX0 := Lib.hid (Box2.new w (.slice A2 st.length c2) (.slice A3 P.length c3) 37)
  have HB0 := Lib.hid (box_below (Below.refl _ w) (.cells #[.slice A2 st.length c2, .slice A3 P.length c3] 37))
  have HSZ : Hid ((w.alloc (.cells #[.slice A2 st.length c2, .slice A3 P.length c3] 37)).heap.size = w.heap.size + 1) := by show _ = _; simp
  clear hu hB hb hA2 hA3 hi hp
  go_enter Try.func23, Try.ntmps23
  go_upto_region 1 with fail
  generalize w.alloc (.cells #[.slice A2 st.length c2, .slice A3 P.length c3] 37) = W0 at *
  have HS1 := Lib.hid (SetAt.made W0)
  rw [HSZ.out] at HS1
  have HL0 : Hid (SoAt w 0 (st.take 0) (.map []) (.slice A2 st.length c2) (.slice A3 P.length c3) (W0.alloc (.map #[] 0))) := ⟨HS1.out, HX0.out.alloc _, box_below HB0.out _⟩
  have HG1 : Hid (W0.heap.size = w.heap.size + 1) := HSZ
  clear HS1 HX0 HB0 HSZ
  go_upto_region 2 with fail
  rw [HG1.out]
  generalize W0.alloc (.map #[] 0) = W1 at *
  clear hmm HG1
  obtain ⟨y9, y0, y1, _, _⟩ := HL0.out.box
  go_wp2_with fail
  clear y9 y0 y1
  go_loopw [19] (fun i wr => ∃ (k : Nat) (D : MapD), i = .int .i64 k ∧ k ≤ st.length ∧ Hid (SoAt w k (st.take k) D (.slice A2 st.length c2) (.slice A3 P.length c3) wr)) (fun i _ => st.length - (intOf i).toNat)
  case atStart => exact ⟨0, _, rfl, Nat.zero_le _, HL0.out⟩
  case round =>
    obtain ⟨k, D, rfl, hk, HL⟩ := hrel
    by_cases hlt : k < st.length
    · obtain ⟨ad, rfl, hl1, hc1⟩ := (HA2.out.below HL.out.bel).at hlt
      have hc : wr.cell? (ad.add k) = some (.int .i64 st[k]) := by
        have : icell st k = .int .i64 st[k] := by unfold icell; simp [List.getD, hlt]
        rw [← this]; exact hc1
      have hlt2 : (k : Int) < (st.length : Int) := by omega
      have i0 : (0 : Int) ≤ (k : Int) := Int.natCast_nonneg _
      obtain ⟨w8, q8, hs8, hg8⟩ := HL.out.set.put (by unfold maxLen; omega) st[k] (HI.out _ (List.getElem_mem hlt))
      have HN8 := Lib.hid (HL.out.put hs8 hg8)
      rw [← take_snoc hlt] at HN8
      clear hs8 hg8 hc1 HL HL0
      generalize (Maps.size D) = MM at *
      generalize hxk : st[k] = xk at hc q8 HN8
      go_wp2_with fail
      exact ⟨⟨k + 1, _, by go_num, by omega, HN8.out⟩, by simp [intOf] <;> omega⟩
    · obtain rfl : k = st.length := by omega
      have HM0 : Hid (SoAt w (st.length + 0) (st ++ pidsOf (P.take 0)) D (.slice A2 st.length c2) (.slice A3 P.length c3) wr) := by
        have := HL.out
        rw [List.take_length] at this
        exact Lib.hid (by simpa [pidsOf] using this)
      clear HL HL0
      obtain ⟨y9, y0, y1, _, _⟩ := HM0.out.box
      go_upto_region 8 with fail
      clear y9 y0 y1
      go_wp2_with fail
      go_loopw [30] (fun i wr => ∃ (k : Nat) (D : MapD), i = .int .i64 k ∧ k ≤ P.length ∧ Hid (SoAt w (st.length + k) (st ++ pidsOf (P.take k)) D (.slice A2 st.length c2) (.slice A3 P.length c3) wr)) (fun i _ => P.length - (intOf i).toNat)
      case atStart => exact ⟨0, _, rfl, Nat.zero_le _, HM0.out⟩
      case round =>
        obtain ⟨k, D, rfl, hk, HL⟩ := hrel
        by_cases hlt : k < P.length
        · obtain ⟨ad, rfl, hat⟩ := HA3.out k hlt
          have hpr := hat.below HL.out.bel
          have hc0 := hpr.c0
          have hc1 := hpr.c1
          have hc2 := hpr.c2
          have HIP : Hid (I64 P[k].id) := HP.out _ (List.mem_map.2 ⟨P[k], List.getElem_mem hlt, rfl⟩)
          have HTK : Hid (st ++ pidsOf (P.take (k + 1)) = (st ++ pidsOf (P.take k)) ++ [P[k].id]) := by
            show _ = _
            rw [take_snoc hlt, List.append_assoc]
            unfold pidsOf
            rw [List.map_append]
            rfl
          have hlt2 : (k : Int) < (P.length : Int) := by omega
          have i0 : (0 : Int) ≤ (k : Int) := Int.natCast_nonneg _
          have HL1 := Lib.hid HL.out
          generalize P[k] = p at *
          have HL2 := Lib.hid (HL1.out.alloc (.cells #[.int .i64 p.id, .int .i64 p.at_, .int .i64 p.slack] 41))
          have HPB := Lib.hid (PrmBox.of (Boxed.new wr #[.int .i64 p.id, .int .i64 p.at_, .int .i64 p.slack] 41))
          clear hat hpr HL HL1
          go_upto_region 10 with fail
          clear hc0 hc1 hc2
          generalize wr.alloc (.cells #[.int .i64 p.id, .int .i64 p.at_, .int .i64 p.slack] 41) = W2 at *
          obtain ⟨z9, z0, _, _, _, _, _⟩ := HPB.out
          obtain ⟨w8, q8, hs8, hg8⟩ := HL2.out.set.put (by unfold maxLen; omega) p.id HIP.out
          have HN8 := Lib.hid (HL2.out.put hs8 hg8)
          rw [← HTK.out] at HN8
          clear hs8 hg8 HL2 HTK HIP HPB
          go_wp2_with fail
          exact ⟨⟨k + 1, _, by go_num, by omega, HN8.out⟩, by simp [intOf] <;> omega⟩
        · obtain rfl : k = P.length := by omega
          have HN0 : Hid (StAt w (st.length + P.length) (st ++ pidsOf P) D (waitJ (st ++ pidsOf P) (js.take 0)) (.slice none 0 0) wr) := by
            have h := HL.out
            rw [List.take_length] at h
            have hl := h.set.lt
            exact ⟨h.set, OwnN.nil (by omega), h.bel⟩
          clear HL HM0 HI HP HA2 HA3
          generalize st.length + P.length = NN at *
          generalize st ++ pidsOf P = ids at *
          go_wp2_with fail
          go_loopw [10, 41] (fun ov i wr => ∃ (k : Nat) (v : Value), v = ov ∧ i = .int .i64 k ∧ k ≤ js.length ∧ Hid (StAt w NN ids D (waitJ ids (js.take k)) v wr)) (fun _ i _ => js.length - (intOf i).toNat)
          case atStart => exact ⟨0, _, rfl, rfl, Nat.zero_le _, HN0.out⟩
          case round =>
            obtain ⟨k, ov, hov, rfl, hk, HL⟩ := hrel
            subst hov
            obtain ⟨A5, c5, hov⟩ := HL.out.row.shape
            by_cases hlt : k < js.length
            · obtain ⟨bd, rfl, hat⟩ := HJB.out k hlt
              obtain ⟨y, y0, y1, y2, y3, y4, y5, y6, y7, y8⟩ := hat.below HL.out.bel
              have hlt2 : (k : Int) < (js.length : Int) := by omega
              have i0 : (0 : Int) ≤ (k : Int) := Int.natCast_nonneg _
              have HWN := Lib.hid (wait_next (ids := ids) hlt)
              have hwl : (waitJ ids (js.take k)).length ≤ 1000 := by have := wait_le ids (js.take k); rw [List.length_take] at this; omega
              obtain ⟨m2, hm2⟩ : ∃ m2, m2 = waitJ ids (js.take (k + 1)) := ⟨_, rfl⟩
              rw [← hm2] at HWN
              have HM2 := Lib.hid hm2
              clear hm2
              generalize waitJ ids (js.take k) = m at *
              obtain ⟨j, hj2⟩ : ∃ j, j = js[k] := ⟨_, rfl⟩
              rw [← hj2] at y0 y1 y2 y3 y4 y5 y6 y7 y8 HWN
              have HX := Lib.hid (JobBox.new wr j 45)
              have HL1 := Lib.hid (HL.out.alloc (.cells #[.int .i64 j.id, .string j.user, .int .i64 j.width, .int .i64 j.est, .int .i64 j.prio, .int .i64 j.sub, .int .i64 j.state, .int .i64 j.start, .int .i64 j.fin] 45))
              subst hov
              clear hj2 hat HL HN0
              go_upto_region 16 with fail
              clear y y0 y1 y2 y3 y4 y5 y6 y7 y8
              obtain ⟨J, hJ⟩ : ∃ J, J = wr.heap.size := ⟨_, rfl⟩
              rw [← hJ] at HX ⊢
              clear hJ
              generalize wr.alloc (.cells #[.int .i64 j.id, .string j.user, .int .i64 j.width, .int .i64 j.est, .int .i64 j.prio, .int .i64 j.sub, .int .i64 j.state, .int .i64 j.start, .int .i64 j.fin] 45) = W2 at *
              have HX2 := Lib.hid (HX.out.below (below_box W2 (.cells #[] 89)))
              have HL2 := Lib.hid (HL1.out.alloc (.cells #[] 89))
              have q8 := look_id HL1.out.set.map HL1.out.set.is j.id
              obtain ⟨y, y0, y1, y2, y3, y4, y5, y6, y7, y8, _, _, _, _, _, _, _, _, _⟩ := HX.out
              clear HL1
              generalize ids.contains j.id = ho at *
              go_upto_region 17 with fail
              clear y y0 y1 y2 y3 y4 y5 y6 y7 y8 q8
              generalize W2.alloc (.cells #[] 89) = W3 at *
              cases ho with
              | true =>
                rw [if_pos rfl, List.append_nil] at HWN
                have HN8 : Hid (StAt w NN ids D m2 (.slice A5 m.length c5) W3) := by rw [HWN.out]; exact HL2
                rw [HM2.out] at HN8
                clear HX HX2 HL2
                go_wp2_with fail
                exact ⟨⟨k + 1, _, rfl, by go_num, by omega, HN8.out⟩, by simp [intOf] <;> omega⟩
              | false =>
                rw [if_neg (by decide)] at HWN
                have HL3 := Lib.hid (HL2.out.alloc (.cells #[.int .i64 j.id, .string j.user, .int .i64 j.width, .int .i64 j.est, .int .i64 j.prio, .int .i64 j.sub, .int .i64 j.state, .int .i64 j.start, .int .i64 j.fin] 45))
                have HO3 := Lib.hid HL3.out.row
                obtain ⟨y, y0, y1, y2, y3, y4, y5, y6, y7, y8, _, _, _, _, _, _, _, _, _⟩ := HX2.out
                clear HL2
                go_wp2_with (at_builtin; refine push_sep jobs_t rfl (.tmp 54) (.tmp 56) rfl (w.heap.size + 2) _ _ _ rfl HO3.out ⟨W3.heap.size, 0, none⟩ 1 1 (jobC j) rfl rfl ?c1 (jobC_cell j) ?c2 ?_)
                case c1 => exact Raw.alloc W3 (jobA j) _
                case c2 => omega
                intro A6 c6 w4 ho4 hb4 _ _
                have HN8 := Lib.hid (HL3.out.push ho4 hb4)
                rw [← HWN.out, HM2.out] at HN8
                clear ho4 hb4 HL3 HO3 HX HX2 y y0 y1 y2 y3 y4 y5 y6 y7 y8
                go_wp2_with fail
                exact ⟨⟨k + 1, _, rfl, by go_num, by omega, HN8.out⟩, by simp [intOf] <;> omega⟩
            · obtain rfl : k = js.length := by omega
              have HE := HL.out
              rw [List.take_length] at HE
              have HJ := Lib.hid (jobs_of_own2 HE.row rfl)
              have HB := Lib.hid HE.bel
              rw [List.take_length] at hov
              subst hov
              clear HE HL HN0
              go_wp2_with fail
              go_ret
              exact ⟨_, rfl, HJ.out, HB.out⟩
end Go.Proofs.Ytophhiejggnaeaa.PasWalk
namespace Go.Proofs.Ytophhiejggnaeaa.ShaWalk
open Go.RowKit Go.Proofs.Ytophhiejggnaeaa.SpanPlain Go.Proofs.Ytophhiejggnaeaa.StepPlain Go.Proofs.Ytophhiejggnaeaa.GapPlain Go.Proofs.Ytophhiejggnaeaa.JobPlain Go.Proofs.Ytophhiejggnaeaa.ShaPlain Go.Proofs.Ytophhiejggnaeaa.Mem Go.Proofs.Ytophhiejggnaeaa.SpanMem Go.Proofs.Ytophhiejggnaeaa.StepMem Go.Proofs.Ytophhiejggnaeaa.JobMem Go.Proofs.Ytophhiejggnaeaa.OrdMem Go.Proofs.Ytophhiejggnaeaa.SpanRef Go.Proofs.Ytophhiejggnaeaa.StepRef Go.Proofs.Ytophhiejggnaeaa.GapRef Go.Proofs.Ytophhiejggnaeaa.ShaRef
def ShSays (s : List Sp) (now : Int) (j : Jb) (w : World) (e : Ending) (w' : World) : Prop := ∃ a p b, e = .returned (.tuple #[.int .i64 a, .int .i64 p, .bool b]) ∧ ShIs s now j a p b ∧ Below w.heap.size w w'
end Go.Proofs.Ytophhiejggnaeaa.ShaWalk
namespace Go.Proofs.Ytophhiejggnaeaa.PasWalk
open Go.RowKit Go.Proofs.Ytophhiejggnaeaa.SpanPlain Go.Proofs.Ytophhiejggnaeaa.StepPlain Go.Proofs.Ytophhiejggnaeaa.GapPlain Go.Proofs.Ytophhiejggnaeaa.JobPlain Go.Proofs.Ytophhiejggnaeaa.OrdPlain Go.Proofs.Ytophhiejggnaeaa.ApiPlain Go.Proofs.Ytophhiejggnaeaa.ShaPlain Go.Proofs.Ytophhiejggnaeaa.SlaPlain Go.Proofs.Ytophhiejggnaeaa.TogPlain Go.Proofs.Ytophhiejggnaeaa.PasPlain Go.Proofs.Ytophhiejggnaeaa.Mem Go.Proofs.Ytophhiejggnaeaa.SpanMem Go.Proofs.Ytophhiejggnaeaa.StepMem Go.Proofs.Ytophhiejggnaeaa.JobMem Go.Proofs.Ytophhiejggnaeaa.OrdMem Go.Proofs.Ytophhiejggnaeaa.ApiMem Go.Proofs.Ytophhiejggnaeaa.SpanRef Go.Proofs.Ytophhiejggnaeaa.StepRef Go.Proofs.Ytophhiejggnaeaa.GapRef Go.Proofs.Ytophhiejggnaeaa.ShaRef Go.Proofs.Ytophhiejggnaeaa.SlaRef
open Go.Proofs.Ytophhiejggnaeaa.StepWalk (NewAt)
open Go.Proofs.Ytophhiejggnaeaa.MulWalk (PlanSays)
theorem ok_fit {s : List Sp} {now : Int} {j : Jb} (hn : 0 ≤ now) (h : okG s now j.width j.est = true) : fitF s now j = now := by
  obtain ⟨hm, hr⟩ := okG_iff.1 h
  rcases fitF_cases s now j with ⟨_, h2⟩ | ⟨h1, h2⟩
  · rcases h2 with ⟨h2, _⟩ | ⟨_, _, h3 | h3⟩
    · cases h2
    · rw [hm] at h3; cases h3
    · exact absurd hr (h3 now (Int.le_refl _))
  · rcases h2 with ⟨_, _, h3, _, h4⟩ | ⟨h2, _⟩
    · have := h4 now (Int.le_refl _) hr
      omega
    · cases h2
theorem no_fit {s : List Sp} {now : Int} {j : Jb} (hn : 0 ≤ now) (h : okG s now j.width j.est = false) : fitF s now j ≠ now := fun e => by
  have h1 := fitF_ok (s := s) (now := now) (j := j) (by omega)
  rw [e, h] at h1
  cases h1.1
theorem sh_yes {s : List Sp} {now a : Int} {j : Jb} (h : FitIs s now j.width j.est a true) : fitF s now j = a := by
  rcases fitF_cases s now j with ⟨_, h2⟩ | ⟨_, h2⟩
  · cases (h2.unique h).2
  · exact (h2.unique h).1
theorem sh_no {s : List Sp} {now a : Int} {j : Jb} (h : FitIs s now j.width j.est a false) : fitF s now j = -1 := by
  rcases fitF_cases s now j with ⟨h1, _⟩ | ⟨_, h2⟩
  · exact h1
  · cases (h2.unique h).2
theorem sh_late {s : List Sp} {now a : Int} {j : Jb} (h : FitIs s now j.width j.est a true) (hk : okG s now j.width j.est = false) : now < a ∧ okG s a j.width j.est = true := by
  rcases h with ⟨_, hm, h3, hr, _⟩ | ⟨h, _⟩
  · refine ⟨?_, okG_iff.2 ⟨hm, hr⟩⟩
    rcases Int.lt_or_eq_of_le h3 with h4 | h4
    · exact h4
    · subst h4
      rw [okG_iff.2 ⟨hm, hr⟩] at hk
      cases hk
  · cases h
structure PasAt (x : Pas) (w : World) (N : Nat) (sv av bv : Value) (wr : World) : Prop where
  st : SpansIs x.s wr sv
  rows : OwnN 3 1 (w.heap.size + 1) wr av x.st.length (ivals x.st)
  prms : OwnN 41 3 (w.heap.size + 1) wr bv x.P.length (prmL.vals x.P)
  noA : av.ownBlock ≠ some N
  noB : bv.ownBlock ≠ some N
  apart : ∀ b, av.ownBlock = some b → bv.ownBlock ≠ some b
  offA : OffN x.s.length sv av
  offB : OffN x.s.length sv bv
  away : ∀ a m c, sv = .slice (some a) m c → 0 < x.s.length → a.block ≠ w.heap.size ∧ a.block ≠ N
  box : Box2 wr N av bv
  ret : Box2 wr w.heap.size (.slice none 0 0) (.slice none 0 0)
  lt : w.heap.size < N
  bel : Below w.heap.size w wr
section
variable {x : Pas} {w : World} {N : Nat} {sv av bv : Value} {wr w' : World}
theorem PasAt.below (h : PasAt x w N sv av bv wr) (hb : Below wr.heap.size wr w') : PasAt x w N sv av bv w' :=
  ⟨h.st.below hb, h.rows.below hb, h.prms.below hb, h.noA, h.noB, h.apart, h.offA, h.offB, h.away, h.box.below hb, h.ret.below hb, h.lt, thenS h.bel hb⟩
theorem PasAt.alloc (h : PasAt x w N sv av bv wr) (o : Obj) : PasAt x w N sv av bv (wr.alloc o) := h.below ((Below.refl _ _).alloc (Nat.le_refl _) o)
theorem PasAt.steps {r : List Sp} {v : Value} (h : PasAt x w N sv av bv wr) (hb : Below wr.heap.size wr w') (hs : SpansIs r w' v) (hn : NewAt wr.heap.size v) : PasAt ⟨r, x.Q, x.R, x.O⟩ w N v av bv w' := by
  have hlt := h.box.lt
  have hlt2 := h.lt
  refine ⟨hs, h.rows.below hb, h.prms.below hb, h.noA, h.noB, h.apart, OffN.fresh hn h.rows, OffN.fresh hn h.prms, (fun a m c e _ => by have := hn a m c e; omega), h.box.below hb, h.ret.below hb, h.lt, thenS h.bel hb⟩
theorem PasAt.start {j : Jb} {O : List (Int × Jb)} {A4 : Option Addr} {c4 : Nat} {w4 : World} (h : PasAt x w N sv av bv wr) (ho : OwnN 3 1 (w.heap.size + 1) w4 (.slice A4 (x.st.length + 1) c4) (x.st.length + 1) (ivals x.st ++ [.int .i64 j.id]))
    (hb : Below (w.heap.size + 1) wr w4) (hg : wr.grownBy w4 av.ownBlock) (hs : NextTo wr av (.slice A4 (x.st.length + 1) c4)) : PasAt ⟨x.s, x.Q, x.R ++ [j], O⟩ w N sv (.slice A4 (x.st.length + 1) c4) bv (w4.setCell ⟨N, 0, none⟩ (.slice A4 (x.st.length + 1) c4)) := by
  have hlt := h.box.lt
  have hlt2 := h.lt
  have hst : (⟨x.s, x.Q, x.R ++ [j], O⟩ : Pas).st = x.st ++ [j.id] := by simp [Pas.st]
  have hW : ∀ (v : Value), (∀ b, v.ownBlock = some b → w.heap.size + 1 ≤ b) → v.ownBlock ≠ some w.heap.size := fun v hv q => by have := hv _ q; omega
  have ha : ∀ b, av.ownBlock = some b → w.heap.size + 1 ≤ b := fun b q => (h.rows.block_lt q).1
  have hbv : ∀ b, bv.ownBlock = some b → w.heap.size + 1 ≤ b ∧ b < wr.heap.size := fun b q => h.prms.block_lt q
  have hv4 : (Value.slice A4 (x.st.length + 1) c4).ownBlock ≠ some N := by
    rcases hs with hs | ⟨b2, hs, hb2⟩
    · rw [hs]; exact h.noA
    · rw [hs]; intro q; injection q with q; omega
  refine ⟨?_, ?_, ?_, hv4, h.noB, ?_, ?_, ?_, h.away, ?_, ?_, h.lt, ?_⟩
  · refine spans_kept h.st (by simp [World.setCell]; exact hg.size) fun a m c e hp => ?_
    refine (Below.heap_setCell _ ⟨N, 0, none⟩ _ a.block (by have := h.away a m c e hp; show a.block ≠ N; omega)).trans (hg.block a.block (spans_lt h.st a m c e hp) (fun q => h.offA a m c e hp q.symm))
  · refine (ho.set_apart (p := ⟨N, 0, none⟩) hv4 _).cast ?_ ?_
    · rw [hst, List.length_append]; rfl
    · rw [hst, ivals_append]; rfl
  · refine (h.prms.kept hg ?_).set_apart (p := ⟨N, 0, none⟩) h.noB _
    cases q : bv.ownBlock with
    | none => exact .inl rfl
    | some b => exact .inr fun e => h.apart b e.symm q
  · intro b e q
    rcases hs with hs | ⟨b2, hs, hb2⟩
    · exact h.apart b (hs ▸ e) q
    · rw [hs] at e
      injection e with e
      have := (hbv b q).2
      omega
  · exact OffN.next h.offA (spans_lt h.st) hs
  · exact h.offB
  · exact (h.box.grown hg h.noA).set0 _
  · exact (h.ret.grown hg (hW _ ha)).set_other (p := ⟨N, 0, none⟩) (by show N ≠ _; omega) _
  · exact (h.bel.trans (hb.mono (by omega))).setCell (p := ⟨N, 0, none⟩) (by show _ ≤ N; omega) _
theorem PasAt.prom {q : Int × Jb} {O : List (Int × Jb)} {A4 : Option Addr} {c4 : Nat} {w4 : World} (h : PasAt x w N sv av bv wr) (ho : OwnN 41 3 (w.heap.size + 1) w4 (.slice A4 (x.P.length + 1) c4) (x.P.length + 1) (prmL.vals x.P ++ prmC (prmQ q)))
    (hb : Below (w.heap.size + 1) wr w4) (hg : wr.grownBy w4 bv.ownBlock) (hs : NextTo wr bv (.slice A4 (x.P.length + 1) c4)) : PasAt ⟨x.s, x.Q ++ [q], x.R, O⟩ w N sv av (.slice A4 (x.P.length + 1) c4) (w4.setCell ⟨N, 1, none⟩ (.slice A4 (x.P.length + 1) c4)) := by
  have hlt := h.box.lt
  have hlt2 := h.lt
  have hst : (⟨x.s, x.Q ++ [q], x.R, O⟩ : Pas).P = x.P ++ [prmQ q] := by simp [Pas.P]
  have hW : ∀ (v : Value), (∀ b, v.ownBlock = some b → w.heap.size + 1 ≤ b) → v.ownBlock ≠ some w.heap.size := fun v hv q => by have := hv _ q; omega
  have ha : ∀ b, av.ownBlock = some b → w.heap.size + 1 ≤ b ∧ b < wr.heap.size := fun b q => h.rows.block_lt q
  have hbv : ∀ b, bv.ownBlock = some b → w.heap.size + 1 ≤ b ∧ b < wr.heap.size := fun b q => h.prms.block_lt q
  have hv4 : (Value.slice A4 (x.P.length + 1) c4).ownBlock ≠ some N := by
    rcases hs with hs | ⟨b2, hs, hb2⟩
    · rw [hs]; exact h.noB
    · rw [hs]; intro q; injection q with q; omega
  refine ⟨?_, ?_, ?_, h.noA, hv4, ?_, ?_, ?_, h.away, ?_, ?_, h.lt, ?_⟩
  · refine spans_kept h.st (by simp [World.setCell]; exact hg.size) fun a m c e hp => ?_
    refine (Below.heap_setCell _ ⟨N, 1, none⟩ _ a.block (by have := h.away a m c e hp; show a.block ≠ N; omega)).trans (hg.block a.block (spans_lt h.st a m c e hp) (fun q => h.offB a m c e hp q.symm))
  · refine (h.rows.kept hg ?_).set_apart (p := ⟨N, 1, none⟩) h.noA _
    cases q : av.ownBlock with
    | none => exact .inl rfl
    | some b => exact .inr fun e => h.apart b q e.symm
  · refine (ho.set_apart (p := ⟨N, 1, none⟩) hv4 _).cast ?_ ?_
    · rw [hst, List.length_append]; rfl
    · rw [hst, Lay.snoc]; rfl
  · intro b e q
    rcases hs with hs | ⟨b2, hs, hb2⟩
    · exact h.apart b e (hs ▸ q)
    · rw [hs] at q
      injection q with q
      have := (ha b e).2
      omega
  · exact h.offA
  · exact OffN.next h.offB (spans_lt h.st) hs
  · exact (h.box.grown hg h.noB).set1 _
  · exact (h.ret.grown hg (hW _ fun b q => (hbv b q).1)).set_other (p := ⟨N, 1, none⟩) (by show N ≠ _; omega) _
  · exact (h.bel.trans (hb.mono (by omega))).setCell (p := ⟨N, 1, none⟩) (by show _ ≤ N; omega) _
theorem PasAt.boxA {w4 : World} (h : PasAt x w N sv av bv wr) (hg : wr.grownBy w4 av.ownBlock) : Box2 w4 N av bv := h.box.grown hg h.noA
theorem PasAt.boxB {w4 : World} (h : PasAt x w N sv av bv wr) (hg : wr.grownBy w4 bv.ownBlock) : Box2 w4 N av bv := h.box.grown hg h.noB
/-- Behind the end: what is told. -/
structure PasTold (x : Pas) (w W : World) (av bv sv : Value) : Prop where
  st : IntsAt x.st W av
  P : prmL.Is x.P W bv
  s : SpansIs x.s W sv
  box : Box2 W w.heap.size av bv
  bel : Below w.heap.size w W
  n1 : NewAt (w.heap.size + 1) av
  n2 : NewAt (w.heap.size + 1) bv
  src : Src W av x.st.length (ivals x.st)
theorem PasAt.done {W : World} (h : PasAt x w N sv av bv wr) (hW : W = (wr.setCell ⟨w.heap.size, 0, none⟩ av).setCell ⟨w.heap.size, 1, none⟩ bv) : PasTold x w W av bv sv := by
  subst hW
  have hlt2 := h.lt
  have hk : ∀ b', b' ≠ w.heap.size → ((wr.setCell ⟨w.heap.size, 0, none⟩ av).setCell ⟨w.heap.size, 1, none⟩ bv).heap[b']? = wr.heap[b']? := fun b' h2 =>
    (Below.heap_setCell _ ⟨w.heap.size, 1, none⟩ _ b' h2).trans (Below.heap_setCell _ ⟨w.heap.size, 0, none⟩ _ b' h2)
  refine ⟨?_, ?_, ?_, (h.ret.set0 _).set1 _, (h.bel.setCell (p := ⟨w.heap.size, 0, none⟩) (Nat.le_refl _) _).setCell (p := ⟨w.heap.size, 1, none⟩) (Nat.le_refl _) _, NewAt.own h.rows (Nat.le_refl _), NewAt.own h.prms (Nat.le_refl _), ?_⟩
  · exact IntsAt.own ((h.rows.set_apart (p := ⟨w.heap.size, 0, none⟩) (fun q => by have := (h.rows.block_lt q).1; simp at this; omega) _).set_apart (p := ⟨w.heap.size, 1, none⟩) (fun q => by have := (h.rows.block_lt q).1; simp at this; omega) _) rfl
  · exact Lay.Is.own ((h.prms.set_apart (p := ⟨w.heap.size, 0, none⟩) (fun q => by have := (h.prms.block_lt q).1; simp at this; omega) _).set_apart (p := ⟨w.heap.size, 1, none⟩) (fun q => by have := (h.prms.block_lt q).1; simp at this; omega) _) rfl
  · exact spans_kept h.st (by simp [World.setCell]) (fun a m c e hp => hk a.block (by have := h.away a m c e hp; omega))
  · exact ((h.rows.set_apart (p := ⟨w.heap.size, 0, none⟩) (fun q => by have := (h.rows.block_lt q).1; simp at this; omega) _).set_apart (p := ⟨w.heap.size, 1, none⟩) (fun q => by have := (h.rows.block_lt q).1; simp at this; omega) _).src
/-- The beginning: no rows yet, the steps cloned. -/
theorem PasAt.begin {s : List Sp} (hs : SpansIs s wr sv) (hn : ∀ a m c, sv = .slice (some a) m c → 0 < s.length → a.block ≠ w.heap.size ∧ a.block ≠ N) (hb : Box2 wr N (.slice none 0 0) (.slice none 0 0)) (hr : Box2 wr w.heap.size (.slice none 0 0) (.slice none 0 0)) (hl : w.heap.size < N) (hw : Below w.heap.size w wr) : PasAt (Pas.new s) w N sv (.slice none 0 0) (.slice none 0 0) wr := by
  refine ⟨hs, OwnN.nil (by have := hb.lt; omega), OwnN.nil (by have := hb.lt; omega), (fun q => by cases q), (fun q => by cases q), (fun b q => by cases q), (fun a m c e hp q => by cases q), (fun a m c e hp q => by cases q), hn, hb, hr, hl, hw⟩
end
theorem fold_next {α β : Type} (f : β → α → β) (z : β) {l : List α} {k : Nat} (hk : k < l.length) : (l.take (k + 1)).foldl f z = f ((l.take k).foldl f z) l[k] := by
  rw [List.take_succ_eq_append_getElem hk, List.foldl_append]; rfl
/-- A pass tells this; and all that it tells is new memory. -/
def PlanSaysN (code : Int) (x : Pas) (w : World) (e : Ending) (w' : World) : Prop :=
  ∃ a b c st P t, e = .returned (.tuple #[.agg #[a, b], c, .int .i64 code]) ∧ IntsAt st w' a ∧ prmL.Is P w' b ∧ SpansIs t w' c ∧ ((code = 0 ∧ st = x.st ∧ P = x.P ∧ t = x.s) ∨ (code ≠ 0 ∧ st = [] ∧ P = [] ∧ t = [])) ∧ Below w.heap.size w w' ∧
    NewAt w.heap.size a ∧ NewAt w.heap.size b ∧ NewAt w.heap.size c ∧ Src w' a st.length (ivals st)
theorem PlanSaysN.says {code : Int} {x : Pas} {w w' : World} {e : Ending} (h : PlanSaysN code x w e w') : PlanSays code x w e w' := by
  obtain ⟨a, b, c, st, P, t, h1, h2, h3, h4, h5, h6, _⟩ := h
  exact ⟨a, b, c, st, P, t, h1, h2, h3, h4, h5, h6⟩
theorem says_ok {x : Pas} {w W : World} {av bv sv : Value} (h : PasTold x w W av bv sv) (hn : NewAt (w.heap.size + 1) sv) : PlanSaysN 0 x w (.returned (.tuple #[.agg #[av, bv], sv, .int .i64 0])) W :=
  ⟨av, bv, sv, x.st, x.P, x.s, rfl, h.st, h.P, h.s, .inl ⟨rfl, rfl, rfl, rfl⟩, h.bel, h.n1.mono (Nat.le_succ _), h.n2.mono (Nat.le_succ _), hn.mono (Nat.le_succ _), h.src⟩
theorem says_no {x : Pas} {w W : World} {k : Int} (hk : k ≠ 0) (h : Below w.heap.size w W) : PlanSaysN k x w (.returned (.tuple #[.agg #[.slice none 0 0, .slice none 0 0], .slice none 0 0, .int .i64 k])) W :=
  ⟨_, _, _, [], [], [], rfl, IntsAt.nil _, .inl ⟨rfl, rfl⟩, .inl ⟨rfl, rfl⟩, .inr ⟨hk, rfl, rfl, rfl⟩, h, NewAt.nil, NewAt.nil, NewAt.nil, .inl ⟨rfl, rfl, rfl⟩⟩
end Go.Proofs.Ytophhiejggnaeaa.PasWalk
namespace Go.Proofs
open Go.Shelf
def Try.lays122_ren : Go.Shelf.Ren := ⟨fun | 122 => 71 | 215 => 78 | n => n, fun | 3 => 3 | 4 => 4 | n => n, fun | n => n⟩
theorem Try.lays122 : Go.Proofs.Lays.n122 Try.prog Try.lays122_ren := {
  mixed := by kernel_rfl
  f122 := Try.func71.trans (congrArg some (by kernel_rfl))
  f215 := Try.func78.trans (congrArg some (by kernel_rfl))
  t3 := Try.underlying3
  a3 := Try.isAgg3
  z3 := Try.sizeOf3
  v3 := Try.zeroValue3
  t4 := Try.underlying4
  a4 := Try.isAgg4
  z4 := Try.sizeOf4
  v4 := Try.zeroValue4 }
open Go.RowKit in
theorem Try.cmp_Compare_int (x y : Int) (w : World) :
    Calls Try.prog 71 #[.int .i64 x, .int .i64 y] w fun e w' => e = .returned (.int .i64 (Lib.compareInt x y)) ∧ w' = w := Any.cmp_Compare_int Try.lays122 x y w
end Go.Proofs
