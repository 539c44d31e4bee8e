/-
  The walks of layer 8's code: the library's slices.Clone at jobs; Sort, by the library's slices.SortStableFunc.
-/
import Derived.Test.YtkoadlgjehmkcaaOrdStabE
import Derived.Lib.OwnBridge
import Derived.WalkSpells
namespace Go.Proofs.Ytkoadlgjehmkcaa.OrdWalk
open Go.Shelf Go.RowKit Go.Lib Go.Sort Go.Proofs.Ytkoadlgjehmkcaa.JobPlain Go.Proofs.Ytkoadlgjehmkcaa.OrdPlain Go.Proofs.Ytkoadlgjehmkcaa.Mem Go.Proofs.Ytkoadlgjehmkcaa.JobMem Go.Proofs.Ytkoadlgjehmkcaa.OrdMem Go.Proofs.Ytkoadlgjehmkcaa.OrdRef Go.Proofs.Ytkoadlgjehmkcaa.OrdStab Go.Proofs.Ytkoadlgjehmkcaa.Stab
theorem put_same (l : List Jb) (j : Jb) : put aheadB l j = putL l j := by
  induction l with
  | nil => rfl
  | cons e l ih => unfold put putL; rw [ih]
theorem sort_same (l : List Jb) : sortBy aheadB l = sortL l := by
  unfold sortBy sortL
  congr 1
  funext l j
  exact put_same l j
theorem flat_jvals (l : List Jb) : flatK jobC 9 l.toArray = (jvals l).toArray := by
  refine ext_get! (by simp [jvals_len]) fun t ht => ?_
  have ht' : t < l.length * 9 := by simpa using ht
  rw [get_flatK _ _ _ _ (by simpa using ht')]
  have hi : t / 9 < l.length := by omega
  have hf : t % 9 < 9 := by omega
  have h1 := jvals_at l (t / 9) hi (t % 9) hf
  rw [show t / 9 * 9 + t % 9 = t by omega] at h1
  have hl : t < (jvals l).length := by rw [jvals_len]; exact ht'
  have hc : t % 9 < (jobC l[t / 9]).length := hf
  have e : l.toArray[t / 9]! = l[t / 9] := by simp [hi]
  rw [e, getElem!_pos (jobC l[t / 9]) (t % 9) hc, getElem!_pos (jvals l).toArray t (by simpa using hl)]
  rw [List.getElem?_eq_getElem hl, List.getElem?_eq_getElem hc] at h1
  injection h1 with h1
  simpa using h1.symm
theorem holds_jvals {w : World} {g : Nat} {l : List Jb} (h : Raw w ⟨g, 0, none⟩ (jvals l)) (hf : ∀ i, w.frozen? ⟨g, i, none⟩ = false) : HoldsK jobC 9 w g 0 l.toArray := by
  unfold HoldsK
  rw [flat_jvals]
  intro j hj
  have hj' : j < (jvals l).length := by simpa using hj
  refine ⟨?_, by rw [Nat.zero_add]; exact hf j⟩
  have h1 := (h j (jvals l)[j] (by simp [hj'])).2
  rw [add_flat] at h1
  rw [Nat.zero_add, h1]
  simp [hj']
theorem jvals_holds {w : World} {g : Nat} {l : List Jb} (h : HoldsK jobC 9 w g 0 l.toArray) (hg : g < w.heap.size) : Raw w ⟨g, 0, none⟩ (jvals l) := by
  unfold HoldsK at h
  rw [flat_jvals] at h
  intro j u hu
  obtain ⟨hj, e⟩ := List.getElem?_eq_some_iff.1 hu
  refine ⟨hg, ?_⟩
  have h1 := (h j (by simpa using hj)).1
  rw [Nat.zero_add] at h1
  rw [add_flat, h1]
  simp [hj, ← e]
theorem below_sort {B g : Nat} {w W : World} {d : Array Jb} (h : SWK jobC 9 w g 0 d W) (hB : B ≤ g) (hg : g < w.heap.size) : Below B w W := by
  obtain ⟨n, os, rfl⟩ := h
  unfold sortWorldK putRowK
  have h9 := below_putRow (enc := id) (q := n) (d := flatK jobC 9 d) (Below.refl B w) hB
  exact h9.trans (below_grow B _ (Nat.le_trans (by omega : B ≤ w.heap.size) h9.size) 0 os)
/-- What Clone answers. -/
def CloneIs (l : List Jb) (w : World) (e : Ending) (w' : World) : Prop := ∃ v', e = .returned v' ∧ ((v' = .slice none 0 0 ∧ l = []) ∨ OwnR 24 9 w.heap.size w' v' l.length (jvals l)) ∧ Below w.heap.size w w'
theorem jobs_eql (w : World) (a : Option Addr) (n c n' c' : Nat) : (binOp .eql 22 (.slice a n c) (.slice none n' c')).run Try.prog w = .ok (.bool a.isNone) w := Lib.run_eql_slice_nil w _ _ a n c n' c' Try.underlying22
set_option maxHeartbeats 1600000 in
theorem cloneS (l : List Jb) (v : Value) (w : World) (hv : JobsIs l w v) (hl : l.length ≤ 100000) : Calls Try.prog 18 #[v] w (CloneIs l w) := by
  have q22 := jobs_eql
  rcases hv with ⟨rfl, rfl⟩ | ⟨a, c, rfl, hr, hn⟩
  · go_enter Try.func18, Try.ntmps18
    go_wp2_with fail
    go_ret
    exact ⟨_, rfl, .inl ⟨rfl, rfl⟩, Below.refl _ _⟩
  · have HR := Lib.hid hr
    have H1 := Lib.hid (jvals_cell l)
    have HL := Lib.hid (jvals_len l)
    clear hr
    generalize hx : jvals l = xs at *
    have HX := Lib.hid hx
    clear hx
    go_enter Try.func18, Try.ntmps18
    go_wp2_with (at_builtin; refine push_raw jobs_t rfl (.tmp 5) (.tmp 6) rfl w.heap.size _ _ _ rfl (OwnR.new w 24 9) a l.length c xs rfl HL.out ?h1 H1.out ?h2 ?_)
    case h1 => exact HR.out.below (below_box _ _)
    case h2 => omega
    intro v' w' ho hb
    have HO := Lib.hid ho
    have HB := Lib.hid (((Below.refl _ _).alloc (Nat.le_refl _) _).trans hb)
    clear ho hb
    go_wp2_with fail
    go_ret
    exact ⟨_, rfl, .inr (by rw [HX.out]; exact HO.out), HB.out⟩
def Nothing (w : World) (e : Ending) (w' : World) : Prop := e = .returned (.tuple #[]) ∧ w = w'
set_option maxRecDepth 100000 in
set_option maxHeartbeats 1600000 in
theorem insert_none (f : Value) (w : World) : Calls Try.prog 30 #[.slice none 0 0, .int .i64 0, .int .i64 0, f] w (Nothing w) := by
  go_enter Try.func30, Try.ntmps30
  go_wp2_with fail
  go_loop [8] (fun i => i = .int .i64 1) (fun _ => 0)
  case atStart => rfl
  case round =>
    subst hrel
    go_wp2_with fail
    go_end0
    exact ⟨rfl, rfl⟩
set_option maxRecDepth 100000 in
set_option maxHeartbeats 1600000 in
theorem stable_none (f : Value) (w : World) : Calls Try.prog 26 #[.slice none 0 0, .int .i64 0, f] w (Nothing w) := by
  have C1 := Lib.hid (insert_none f w)
  go_enter Try.func26, Try.ntmps26
  go_wp2_with fail
  go_loop [7, 8] (fun a b => a = .int .i64 0 ∧ b = .int .i64 20) (fun _ _ => 0)
  case atStart => exact ⟨rfl, rfl⟩
  case round =>
    obtain ⟨rfl, rfl⟩ := hrel
    go_wp2_with fail
    refine C1.out.mono ?_
    rintro e w1 ⟨rfl, rfl⟩
    go_wp2_with fail
    go_loop [6] (fun a => a = .int .i64 20) (fun _ => 0)
    case atStart => rfl
    case round =>
      subst hrel
      go_wp2_with fail
      go_end0
      exact ⟨rfl, rfl⟩
set_option maxHeartbeats 1600000 in
theorem sorts_none (f : Value) (w : World) : Calls Try.prog 19 #[.slice none 0 0, f] w (Nothing w) := by
  have C1 := Lib.hid (stable_none f w)
  go_enter Try.func19, Try.ntmps19
  go_wp2_with fail
  refine C1.out.mono ?_
  rintro e w1 ⟨rfl, rfl⟩
  go_wp2_with fail
  go_end0
  exact ⟨rfl, rfl⟩
def SortedIs (l : List Jb) (B g : Nat) (w : World) (e : Ending) (w' : World) : Prop := e = .returned (.tuple #[]) ∧ Raw w' ⟨g, 0, none⟩ (jvals (sortL l)) ∧ Below B w w'
set_option maxHeartbeats 1600000 in
theorem sorts_own (l : List Jb) (B g c : Nat) (w : World) (hB : B ≤ g) (hg : g < w.heap.size) (hr : Raw w ⟨g, 0, none⟩ (jvals l)) (hf : ∀ i, w.frozen? ⟨g, i, none⟩ = false) (hl : l.length ≤ 100000) :
    Calls Try.prog 19 #[.slice (some ⟨g, 0, none⟩) l.length c, .func (.func 20) #[] #[]] w (SortedIs l B g w) := by
  have hH := holds_jvals hr hf
  have hR : RowIs w g l.length := ⟨l.toArray, by simp, ⟨fun _ => rfl, fun x => jobC_cell x, hH, hg⟩⟩
  have C1 := Lib.hid (stable_any c g l.length l w w rfl hR (SWK.start hH) hl)
  have HE : Hid (∀ W, Hold w g (sortBy aheadB l) W → Raw W ⟨g, 0, none⟩ (jvals (sortL l)) ∧ Below B w W) := fun W h => by
    rw [sort_same] at h
    have h2 : SWK jobC 9 w g 0 (sortL l).toArray W := h
    refine ⟨jvals_holds (h2.holds hg hH (by simp [OrdPlain.sort_len])) (h2.lt hg), below_sort h2 hB hg⟩
  clear hH hR hr hf
  go_enter Try.func19, Try.ntmps19
  go_wp2_with fail
  refine C1.out.mono ?_
  rintro e w1 ⟨rfl, h1⟩
  have H1 := Lib.hid (HE.out w1 h1)
  clear h1
  go_wp2_with fail
  go_end0
  exact ⟨rfl, H1.out.1, H1.out.2⟩
set_option maxHeartbeats 1600000 in
theorem sortS (l : List Jb) (v : Value) (w : World) (hv : JobsIs l w v) (hl : l.length ≤ 200) : Calls Try.prog 7 #[v] w (JobsSays (sortL l) w) := by
  have C1 := Lib.hid (cloneS l v w hv (by omega))
  obtain ⟨A, c, rfl, _⟩ := hv.open_
  clear hv
  go_enter Try.func7, Try.ntmps7
  go_wp2_with fail
  refine C1.out.mono ?_
  rintro e w1 ⟨v1, rfl, h1, hb1⟩
  have HB1 := Lib.hid hb1
  rcases h1 with ⟨rfl, rfl⟩ | h1
  · have C2 := Lib.hid (sorts_none (.func (.func 20) #[] #[]) w1)
    clear hb1 C1
    go_wp2_with fail
    refine C2.out.mono ?_
    rintro e w2 ⟨rfl, rfl⟩
    go_wp2_with fail
    go_ret
    exact ⟨_, rfl, .inl ⟨rfl, rfl⟩, HB1.out⟩
  · obtain ⟨g, c1, rfl, g1, g2, g3, g4, g5, g6⟩ := h1.form
    have C2 := Lib.hid (sorts_own l w.heap.size g c1 w1 g1 g2 g5 g6 (by omega))
    have HG := Lib.hid (And.intro g1 g3)
    clear hb1 C1 h1 g1 g2 g3 g4 g5 g6
    go_wp2_with fail
    refine C2.out.mono ?_
    rintro e w2 ⟨rfl, hr, hb⟩
    have HR := Lib.hid hr
    have HB := Lib.hid hb
    clear hr hb
    go_wp2_with fail
    go_ret
    exact ⟨_, rfl, .inr ⟨⟨g, 0, none⟩, c1, by rw [OrdPlain.sort_len]; rfl, HR.out, by rw [OrdPlain.sort_len]; exact HG.out.2⟩, HB1.out.trans HB.out⟩
end Go.Proofs.Ytkoadlgjehmkcaa.OrdWalk
